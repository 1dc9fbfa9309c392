package tests

import (
	"slices"
	"testing"

	"loop.example/g00274/impl"
)

func rankingsWith(change func(l []impl.Ranking)) []impl.Ranking {
	l := threeRankings()
	change(l)
	return l
}

func entryAs(list int, at int, id int, score int) []impl.Ranking {
	return rankingsWith(func(l []impl.Ranking) { l[list].List[at] = impl.Scored{Id: id, Score: score} })
}

func brokenNumbers() map[string][]impl.Ranking {
	return map[string][]impl.Ranking{
		"the score 0":                    {rank(1, 0)},
		"the score 0, last":              {rank(1, 5, 2, 0)},
		"the score 0 in the last list":   entryAs(2, 4, 1, 0),
		"a score below 0":                {rank(1, -1)},
		"the least score":                {rank(1, least)},
		"a score above the greatest":     {rank(1, 1000001)},
		"a score above it, once more":    entryAs(0, 0, 1000, 1000001),
		"the greatest number as a score": {rank(1, greatest)},
		"an id below 0":                  {rank(-1, 1)},
		"an id below 0 in the last list": entryAs(2, 0, -1, 12),
		"the least id":                   {rank(least, 1)},
		"an id above the greatest":       {rank(1001, 1)},
		"an id above it, once more":      entryAs(0, 0, 1001, 1000000),
		"the greatest number as an id":   {rank(greatest, 1)},
		"nothing but zeros":              {rank(0, 0)},
	}
}

func brokenRanks() map[string][]impl.Ranking {
	return map[string][]impl.Ranking{
		"scores that rise":                  {rank(1, 1, 2, 2)},
		"scores that rise, ids that fall":   {rank(2, 1, 1, 2)},
		"scores that rise, last":            {rank(1, 9, 2, 8, 3, 7, 4, 8)},
		"scores that rise far":              {rank(1, 9, 2, 1, 3, 1000000)},
		"scores that rise in the last list": entryAs(2, 4, 1, 5),
		"ids that fall":                     {rank(2, 5, 1, 5)},
		"ids that fall, last":               {rank(1, 9, 2, 8, 4, 7, 3, 7)},
		"ids that fall far":                 {rank(1000, 5, 0, 5)},
		"ids that fall in the second list":  entryAs(1, 0, 8, 30),
		"ids that are alike":                {rank(1, 5, 1, 5)},
		"ids that are alike, last":          entryAs(2, 2, 8, 12),
		"an id twice":                       {rank(1, 5, 1, 4)},
		"an id twice, the first and last":   {rank(1, 5, 2, 4, 3, 4, 1, 3)},
		"the id 0 twice":                    {rank(0, 5, 2, 4, 0, 1)},
		"an id twice in the first list":     entryAs(0, 3, 1000, 1),
		"an id twice in the last list":      entryAs(2, 4, 0, 1),
		"an id twice among sixty":           {{List: slices.Concat(manyScored(59, 1, 90, 1).List, scored(1, 1))}},
	}
}

func brokenLengths() map[string][]impl.Ranking {
	return map[string][]impl.Ranking{
		"a list too many":                 append(threeRankings(), threeRankings()...),
		"an empty list too many":          make([]impl.Ranking, 6),
		"a million lists":                 make([]impl.Ranking, 1000000),
		"an entry too many":               {manyScored(61, 0, 100, 1)},
		"an entry too many, scores alike": {manyScored(61, 900, 5, 0)},
		"an entry too many, last list":    append(threeRankings(), impl.Ranking{}, manyScored(61, 0, 100, 1)),
		"a million entries":               {{List: make([]impl.Scored, 1000000)}},
		"a million of one entry":          {rank(1, 1), {List: slices.Repeat(scored(1, 1), 1000000)}},
	}
}

func brokenRankings() map[string][]impl.Ranking {
	all := brokenNumbers()
	for what, l := range brokenRanks() {
		all[what] = l
	}
	for what, l := range brokenLengths() {
		all[what] = l
	}
	return all
}

func TestPromise11RankingsThatBreakARule(t *testing.T) {
	for rule, l := range brokenRankings() {
		if longestOf(l) < 1000 && oracleGoodRankings(l) {
			t.Errorf("%s: they are good", rule)
		}
		wantNoRankings(t, rule, l)
	}
}

// One bad list among good ones is enough, wherever it stands.
func TestPromise11OneBadListAmongGoodOnes(t *testing.T) {
	for rule, bad := range brokenRankings() {
		if len(bad) != 1 {
			continue
		}
		for at := range 5 {
			l := slices.Concat(threeRankings(), make([]impl.Ranking, 2))
			l[at] = bad[0]
			wantNoRankings(t, rule, l)
		}
	}
}

func TestPromise11RankingsThatAreGood(t *testing.T) {
	for what, l := range map[string][]impl.Ranking{
		"none":                          nil,
		"none, with room":               make([]impl.Ranking, 0, 9),
		"an empty list":                 {{}},
		"five empty lists":              make([]impl.Ranking, 5),
		"three":                         threeRankings(),
		"five":                          append(threeRankings(), threeRankings()[:2]...),
		"one list five times":           slices.Repeat([]impl.Ranking{rank(1, 2, 3, 1)}, 5),
		"the score 1":                   {rank(1, 1)},
		"the greatest score":            {rank(1, 1000000)},
		"the id 0":                      {rank(0, 1)},
		"the greatest id":               {rank(1000, 1)},
		"all ends":                      {rank(0, 1000000, 1000, 1000000), rank(1000, 1000000, 0, 1), rank(0, 1, 1000, 1)},
		"scores that fall, ids as well": {rank(9, 5, 8, 4, 7, 3)},
		"scores alike":                  {rank(1, 5, 2, 5, 1000, 5)},
		"an id in each list":            {rank(1, 5), rank(1, 5), rank(1, 4)},
		"sixty":                         {manyScored(60, 0, 100, 1)},
		"sixty, scores alike":           {manyScored(60, 941, 1, 0)},
		"five of sixty":                 slices.Repeat([]impl.Ranking{manyScored(60, 0, 1000000, 1)}, 5),
	} {
		if !impl.GoodRankings(l) || !oracleGoodRankings(l) {
			t.Errorf("%s: not good: %v", what, l)
		}
	}
}

func wantAsTheRulesSay(t *testing.T, what string, l []impl.Ranking) bool {
	t.Helper()
	want := oracleGoodRankings(l)
	if got := impl.GoodRankings(l); got != want {
		t.Errorf("%s: GoodRankings(%v) is %v", what, l, got)
	}
	if !want {
		wantNoRankings(t, what, l)
	}
	return want
}

func anyNumbers() []int {
	return []int{least, least + 1, -1000001, -1000, -2, -1, 0, 1, 2, 3, 4, 5, 7, 8, 9, 10, 11, 12, 13, 29, 30, 31, 59, 60, 61, 999, 1000, 1001, 999999, 1000000, 1000001, 1 << 32, 1<<32 + 7, greatest - 1, greatest}
}

func TestPromise11GoodRankingsOfEachNumber(t *testing.T) {
	for list, r := range threeRankings() {
		for at, x := range r.List {
			for _, n := range anyNumbers() {
				wantAsTheRulesSay(t, "any id", entryAs(list, at, n, x.Score))
				wantAsTheRulesSay(t, "any score", entryAs(list, at, x.Id, n))
				wantAsTheRulesSay(t, "any entry", entryAs(list, at, n, n))
			}
		}
	}
}

func TestPromise11GoodRankingsOfEachLength(t *testing.T) {
	for many := range 63 {
		for _, r := range []impl.Ranking{manyScored(many, 0, 1000000, 1), manyScored(many, 900, 1, 0)} {
			for lists := range 8 {
				wantAsTheRulesSay(t, "so many", slices.Repeat([]impl.Ranking{r}, lists))
			}
		}
	}
}

// disturbRankings changes one entry, or where two of a list stand.
func (d *dice) disturbRankings(l []impl.Ranking) {
	list := l[d.below(len(l))].List
	if len(list) == 0 {
		return
	}
	k, other := d.below(len(list)), d.below(len(list))
	switch d.below(5) {
	case 0:
		list[k].Id = []int{-1, 0, list[other].Id, list[other].Id + 1, 1000, 1001}[d.below(6)]
	case 1:
		list[k].Score = []int{0, 1, list[other].Score, list[other].Score + 1, 1000000, 1000001}[d.below(6)]
	case 2:
		list[k], list[other] = list[other], list[k]
	case 3:
		list[k].Id, list[other].Id = list[other].Id, list[k].Id
	case 4:
		list[k] = list[other]
	}
}

func TestPromise11GoodRankingsAgainstTheRules(t *testing.T) {
	d := &dice{state: 114}
	good, bad := 0, 0
	for range 4000 {
		l := append(d.rankings(), impl.Ranking{})
		d.disturbRankings(l)
		if wantAsTheRulesSay(t, "disturbed", l) {
			good++
		} else {
			bad++
		}
	}
	if good < 800 || bad < 800 {
		t.Errorf("%d good and %d bad: that tells little", good, bad)
	}
}
