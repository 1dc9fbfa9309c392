package tests

import (
	"slices"
	"strings"
	"testing"

	"loop.example/g00274/impl"
)

func limb(key string, left int, right int) impl.Limb {
	return impl.Limb{Key: key, Value: "v" + key, Left: left, Right: right}
}

// limbsWith is a good treap of four limbs, one of them in place of its own.
func limbsWith(k int, l impl.Limb) []impl.Limb {
	limbs := []impl.Limb{limb("z", 1, -1), limb("k", 2, 3), limb("a", -1, -1), limb("m", -1, -1)}
	limbs[k] = l
	return limbs
}

// brokenTreaps break one rule each.
func brokenTreaps() map[string][]impl.Limb {
	most := treapOf(manyKeys(61)...).Limbs
	return map[string][]impl.Limb{
		"a limb too many":                        most,
		"many limbs too many":                    slices.Repeat(most, 1000),
		"a limb that is reached twice":           limbsWith(2, limb("a", -1, 3)),
		"a limb on both sides":                   limbsWith(1, limb("k", 2, 2)),
		"a limb on both sides, the only one":     {limb("z", 1, 1), limb("k", -1, -1)},
		"a limb at the left that is not reached": limbsWith(1, limb("k", -1, 3)),
		"a limb at the right that is not":        limbsWith(1, limb("k", 2, -1)),
		"a root that reaches none":               limbsWith(0, limb("z", -1, -1)),
		"two roots":                              {limb("z", -1, -1), limb("k", -1, -1)},
		"a limb at its own left":                 {limb("z", 0, -1)},
		"a limb at its own right":                {limb("z", -1, 0)},
		"a limb on both of its own sides":        {limb("z", 0, 0)},
		"a ring back to the root":                limbsWith(2, limb("a", 0, -1)),
		"a ring of two":                          {limb("z", 1, -1), limb("k", -1, 0)},
		"a ring beside the root":                 {limb("z", -1, -1), limb("k", 2, -1), limb("a", -1, 1)},
		"a ring below the root":                  limbsWith(3, limb("m", 1, -1)),
		"a number one beyond the last":           limbsWith(3, limb("m", 4, -1)),
		"a number one beyond, of a lone limb":    {limb("z", -1, 1)},
		"the number -2":                          limbsWith(3, limb("m", -2, -1)),
		"the greatest number":                    limbsWith(3, limb("m", -1, greatest)),
		"the least number":                       limbsWith(2, limb("a", least, -1)),
		"nothing but zeros":                      {{}},
		"the root last":                          {limb("k", 1, 2), limb("a", -1, -1), limb("m", -1, -1), limb("z", 0, -1)},
		"the root second":                        {limb("k", -1, -1), limb("z", 0, -1)},
		"the right ahead of the left":            {limb("z", 1, -1), limb("k", 3, 2), limb("m", -1, -1), limb("a", -1, -1)},
		"a limb ahead of the one above it":       {limb("z", 2, -1), limb("a", -1, -1), limb("k", 1, 3), limb("m", -1, -1)},
		"a limb of the left behind the right":    {limb("k", 1, 2), limb("b", 3, -1), limb("m", -1, -1), limb("a", -1, -1)},
		"a lesser key at the right":              {limb("z", -1, 1), limb("k", -1, -1)},
		"a greater key at the left":              {limb("k", 1, -1), limb("m", -1, -1)},
		"both on the wrong side":                 {limb("k", 1, 2), limb("m", -1, -1), limb("a", -1, -1)},
		"a lesser key far at the right":          {limb("j", -1, 1), limb("k", 2, -1), limb("h", -1, -1)},
		"a greater key far at the left":          {limb("m", 1, -1), limb("b", -1, 2), limb("ma", -1, -1)},
		"a key twice, at the left":               {limb("z", 1, -1), limb("z", -1, -1)},
		"a key twice, at the right":              {limb("z", -1, 1), limb("z", -1, -1)},
		"a key twice, far at the right":          {limb("j", -1, 1), limb("k", 2, -1), limb("j", -1, -1)},
		"the lighter one above, at the left":     {limb("k", 1, -1), limb("h", -1, 2), limb("j", -1, -1)},
		"the lighter one above, at the right":    {limb("k", -1, 1), limb("m", -1, 2), limb("z", -1, -1)},
		"the lighter one at the root":            {limb("m", -1, 1), limb("z", -1, -1)},
		"as heavy with a lesser key below":       {limb("pb", 1, -1), limb("ozac", -1, -1)},
		"as heavy, far below":                    {limb("z", 1, -1), limb("pb", 2, -1), limb("ozac", -1, -1)},
		"an empty key":                           {{Value: "v", Left: -1, Right: -1}},
		"an empty key among others":              {limb("z", 1, -1), limb("k", 2, 3), {Value: "v", Left: -1, Right: -1}, limb("m", -1, -1)},
		"a key of 41 bytes":                      treapOf("z", strings.Repeat("a", 41), "k").Limbs,
		"a key of 41 bytes alone":                treapOf(strings.Repeat("\xff", 41)).Limbs,
		"a value of 61 bytes":                    pairsOf("z", "k").with("a", strings.Repeat("v", 61)).limbs(0),
		"a value of 61 bytes alone":              {{Key: "z", Value: strings.Repeat("v", 61), Left: -1, Right: -1}},
		"a million bytes as a key":               {limb(strings.Repeat("k", 1000000), -1, -1)},
		"a million bytes as a value":             {{Key: "z", Value: strings.Repeat("v", 1000000), Left: -1, Right: -1}},
	}
}

func TestPromise7TreapsThatBreakARule(t *testing.T) {
	for rule, limbs := range brokenTreaps() {
		if oracleGoodTreap(impl.Treap{Limbs: limbs}) {
			t.Errorf("%s: it is good", rule)
		}
		wantNoTreap(t, rule, impl.Treap{Limbs: limbs})
	}
}

func TestPromise7TreapsThatAreGood(t *testing.T) {
	for what, limbs := range map[string][]impl.Limb{
		"nil":                         nil,
		"none":                        {},
		"none, with room":             make([]impl.Limb, 0, 5),
		"one":                         {limb("a", -1, -1)},
		"one without a value":         {{Key: "a", Left: -1, Right: -1}},
		"four":                        limbsWith(0, limb("z", 1, -1)),
		"at the left alone":           {limb("z", 1, -1), limb("k", -1, -1)},
		"at the right alone":          {limb("k", -1, 1), limb("m", -1, -1)},
		"as heavy, the lesser above":  {limb("ozac", -1, 1), limb("pb", -1, -1)},
		"a left of two and a right":   {limb("k", 1, 3), limb("b", 2, -1), limb("a", -1, -1), limb("m", -1, -1)},
		"the longest key and value":   {{Key: strings.Repeat("k", 40), Value: strings.Repeat("v", 60), Left: -1, Right: -1}},
		"any bytes as keys and value": {{Key: "\xff", Value: "\x00\xff", Left: 1, Right: -1}, {Key: "\x00", Value: "\n", Left: -1, Right: -1}},
		"sixty":                       treapOf(manyKeys(60)...).Limbs,
	} {
		if made := (impl.Treap{Limbs: limbs}); !impl.GoodTreap(made) || !oracleGoodTreap(made) {
			t.Errorf("%s: not good: %v", what, limbs)
		}
	}
}

// Each field of each limb changed, and limbs that change places, held against the rules told one by one.
func TestPromise7GoodTreapAgainstTheRules(t *testing.T) {
	d := &dice{state: 80}
	good := 0
	for range 6000 {
		p := d.pairs(7)
		if len(p) == 0 {
			continue
		}
		made := impl.Treap{Limbs: p.limbs(0)}
		for range 1 + d.below(2) {
			d.disturb(made.Limbs)
		}
		want := oracleGoodTreap(made)
		if got := impl.GoodTreap(made); got != want {
			t.Errorf("GoodTreap(%v) is %v", made, got)
		}
		if want {
			good++
		} else {
			wantNoTreap(t, "disturbed", made)
		}
	}
	if good < 100 {
		t.Errorf("only %d are good", good)
	}
}

func (d *dice) disturb(limbs []impl.Limb) {
	k, other := d.below(len(limbs)), d.below(len(limbs))
	switch d.below(8) {
	case 0:
		limbs[k].Left = d.below(len(limbs)+3) - 2
	case 1:
		limbs[k].Right = d.below(len(limbs)+3) - 2
	case 2:
		limbs[k].Key = d.key()
	case 3:
		limbs[k].Value = strings.Repeat("w", 55+d.below(8))
	case 4:
		limbs[k], limbs[other] = limbs[other], limbs[k]
	case 5:
		limbs[k].Left, limbs[k].Right = limbs[k].Right, limbs[k].Left
	case 6:
		limbs[k].Key, limbs[other].Key = limbs[other].Key, limbs[k].Key
	case 7:
		limbs[k].Key = limbs[k].Key[:d.below(len(limbs[k].Key)+1)]
	}
}

// Two rows of few keys, so that each shape that limbs can have is asked for.
func TestPromise7EveryShapeOfThreeLimbs(t *testing.T) {
	good := 0
	for _, keys := range [][]string{{"a", "k", "m"}, {"ozac", "p", "pb"}, {"h", "j", "k"}} {
		eachOrder(pairsOf(keys...), func(order pairs) {
			for n := range 4 * 4 * 4 * 4 * 4 * 4 {
				limbs := make([]impl.Limb, 3)
				for k := range limbs {
					limbs[k] = limb(order[k].key, n&3-1, n>>2&3-1)
					n >>= 4
				}
				made := impl.Treap{Limbs: limbs}
				want := sameTreap(made, treapOf(keys...))
				if impl.GoodTreap(made) != want || oracleGoodTreap(made) != want {
					t.Errorf("GoodTreap(%v) is not %v", made, want)
				}
				if want {
					good++
				}
			}
		})
	}
	if good != 3 {
		t.Errorf("there are %d shapes for three sets of keys", good)
	}
}
