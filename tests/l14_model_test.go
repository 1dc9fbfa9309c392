package tests

import (
	"slices"
	"testing"

	"loop.example/g00274/impl"
)

// chronicle is what was done to copies, told without versions: all that was ever written, and which of these each copy has.
type chronicle struct {
	weights []int
	read    int
	write   int
	texts   []string
	has     []int
}

func chronicleOf(read int, write int, weights ...int) chronicle {
	return chronicle{weights: weights, read: read, write: write, texts: []string{""}, has: make([]int, len(weights))}
}

func (c chronicle) all() int {
	return c.weigh(numbersBelow(len(c.weights)))
}

func (c chronicle) weigh(some []int) int {
	sum := 0
	for _, k := range some {
		sum += c.weights[k]
	}
	return sum
}

func (c chronicle) written(text string, some ...int) chronicle {
	c.texts = append(slices.Clone(c.texts), text)
	return c.withLast(some...)
}

func (c chronicle) withLast(some ...int) chronicle {
	c.has = slices.Clone(c.has)
	for _, k := range some {
		c.has[k] = len(c.texts) - 1
	}
	return c
}

func (c chronicle) last() string {
	return c.texts[len(c.texts)-1]
}

func (c chronicle) voting() impl.Voting {
	v := impl.Voting{Read: c.read, Write: c.write}
	for k, weight := range c.weights {
		v.Copies = append(v.Copies, impl.Copy{Weight: weight, Version: c.has[k], Text: c.texts[c.has[k]]})
	}
	return v
}

func numbersBelow(many int) []int {
	var l []int
	for k := range many {
		l = append(l, k)
	}
	return l
}

// setsBelow are all rising lists of numbers below many.
func setsBelow(many int) [][]int {
	sets := [][]int{nil}
	for k := range many {
		for _, set := range slices.Clone(sets) {
			sets = append(sets, append(slices.Clone(set), k))
		}
	}
	return sets
}

func oracleRises(l []int, many int) bool {
	return slices.IsSorted(l) && len(slices.Compact(slices.Clone(l))) == len(l) && !slices.ContainsFunc(l, func(n int) bool { return n < 0 || n >= many })
}

func oracleGoodCopy(c impl.Copy) bool {
	return c.Weight > 0 && c.Weight < 11 && c.Version > -1 && c.Version < 1000001 && len(c.Text) < 13
}

// oracleGoodVoting asks rule by rule.
func oracleGoodVoting(v impl.Voting) bool {
	if len(v.Copies) == 0 || len(v.Copies) > 7 {
		return false
	}
	all, textOf, weightOf, newest := 0, map[int]string{}, map[int]int{}, 0
	for _, c := range v.Copies {
		text, told := textOf[c.Version]
		if !oracleGoodCopy(c) || told && text != c.Text {
			return false
		}
		textOf[c.Version] = c.Text
		weightOf[c.Version] += c.Weight
		all += c.Weight
		newest = max(newest, c.Version)
	}
	if v.Read <= 0 || v.Write <= 0 || v.Read > all || v.Write > all {
		return false
	}
	return v.Read > all-v.Write && v.Write > all-v.Write && weightOf[newest] >= v.Write
}

func oracleTogether(v impl.Voting, some []int) int {
	sum := 0
	for _, k := range some {
		sum += v.Copies[k].Weight
	}
	return sum
}

// oracleNewest goes down from the greatest Version on, until one of some has it.
func oracleNewest(v impl.Voting, some []int) impl.Copy {
	sorted := slices.Clone(some)
	slices.SortStableFunc(sorted, func(a int, b int) int { return v.Copies[b].Version - v.Copies[a].Version })
	return v.Copies[sorted[0]]
}

func oracleHolding(v impl.Voting, some []int, version int, text string) impl.Voting {
	made := impl.Voting{Read: v.Read, Write: v.Write}
	for k, c := range v.Copies {
		if slices.Contains(some, k) {
			c = impl.Copy{Weight: c.Weight, Version: version, Text: text}
		}
		made.Copies = append(made.Copies, c)
	}
	return made
}

func sameVoting(a impl.Voting, b impl.Voting) bool {
	return a.Read == b.Read && a.Write == b.Write && slices.Equal(a.Copies, b.Copies)
}

func wantVoting(t *testing.T, what string, got impl.Voting, ok bool, want impl.Voting) {
	t.Helper()
	if !ok || !sameVoting(got, want) {
		t.Errorf("%s is %v %v, not %v", what, got, ok, want)
	}
}

func wantZeroVoting(t *testing.T, what string, got impl.Voting, ok bool) {
	t.Helper()
	if ok || !sameVoting(got, impl.Voting{}) {
		t.Errorf("%s is %v %v, not zero and false", what, got, ok)
	}
}

// wantNotWeighed asks what takes some copies of a voting for its answer where these are none of it.
func wantNotWeighed(t *testing.T, what string, v impl.Voting, some []int) {
	t.Helper()
	if n, ok := impl.WeightIn(v, some); n != 0 || ok {
		t.Errorf("%s: WeightIn(%v, %v) is %d %v", what, v, some, n, ok)
	}
	wantNotRead(t, what, v, some)
	wantNotWritten(t, what, v, some, "x")
}

func wantNotRead(t *testing.T, what string, v impl.Voting, some []int) {
	t.Helper()
	if s, version, ok := impl.ReadText(v, some); s != "" || version != 0 || ok {
		t.Errorf("%s: ReadText(%v, %v) is %q %d %v", what, v, some, s, version, ok)
	}
	got, changed, ok := impl.RepairCopies(v, some)
	wantZeroVoting(t, what+": RepairCopies", got, ok)
	if changed != 0 {
		t.Errorf("%s: RepairCopies(%v, %v) changes %d", what, v, some, changed)
	}
}

func wantNotWritten(t *testing.T, what string, v impl.Voting, some []int, text string) {
	t.Helper()
	got, ok := impl.WriteText(v, some, text)
	wantZeroVoting(t, what+": WriteText", got, ok)
}

func wantWritten(t *testing.T, v impl.Voting, some []int, text string) {
	t.Helper()
	got, ok := impl.WriteText(v, some, text)
	wantVoting(t, "WriteText", got, ok, oracleHolding(v, some, oracleNewest(v, some).Version+1, text))
	if !impl.GoodVoting(got) {
		t.Errorf("WriteText(%v, %v, %q) is not good: %v", v, some, text, got)
	}
}

// wantReadAndRepaired asks what some that weigh enough answer; repaired again nothing is changed.
func wantReadAndRepaired(t *testing.T, v impl.Voting, some []int) {
	t.Helper()
	newest := oracleNewest(v, some)
	if s, version, ok := impl.ReadText(v, some); s != newest.Text || version != newest.Version || !ok {
		t.Errorf("ReadText(%v, %v) is %q %d %v", v, some, s, version, ok)
	}
	want := oracleHolding(v, some, newest.Version, newest.Text)
	many := 0
	for k, c := range v.Copies {
		if c != want.Copies[k] {
			many++
		}
	}
	got, changed, ok := impl.RepairCopies(v, some)
	wantVoting(t, "RepairCopies", got, ok, want)
	again, none, ok := impl.RepairCopies(got, some)
	wantVoting(t, "RepairCopies again", again, ok, want)
	if changed != many || none != 0 || !impl.GoodVoting(got) {
		t.Errorf("RepairCopies(%v, %v) changes %d, not %d, and then %d", v, some, changed, many, none)
	}
}

// wantVotingAnswers asks a good voting of each set of its copies.
func wantVotingAnswers(t *testing.T, v impl.Voting) {
	t.Helper()
	everyone := numbersBelow(len(v.Copies))
	newest := oracleNewest(v, everyone).Version
	isOld := func(k int) bool { return v.Copies[k].Version != newest }
	holders := oracleTogether(v, slices.DeleteFunc(everyone, isOld))
	if version, weight, ok := impl.NewestOf(v); version != newest || weight != holders || !ok {
		t.Errorf("NewestOf(%v) is %d %d %v", v, version, weight, ok)
	}
	for _, some := range setsBelow(len(v.Copies)) {
		weight := oracleTogether(v, some)
		if n, ok := impl.WeightIn(v, some); n != weight || !ok {
			t.Errorf("WeightIn(%v, %v) is %d %v, not %d", v, some, n, ok, weight)
		}
		if weight >= v.Read {
			wantReadAndRepaired(t, v, some)
		} else {
			wantNotRead(t, "too few", v, some)
		}
		if weight >= v.Write && newest < 1000000 {
			wantWritten(t, v, some, "new")
		} else {
			wantNotWritten(t, "too few, or too often", v, some, "new")
		}
	}
}

// wantLastRead asks the promise itself: what any enough read is what was written last, and it was written so many times.
func wantLastRead(t *testing.T, v impl.Voting, c chronicle) {
	t.Helper()
	if !impl.GoodVoting(v) || !sameVoting(v, c.voting()) {
		t.Fatalf("%v is not %v", v, c.voting())
	}
	for _, some := range setsBelow(len(c.weights)) {
		if c.weigh(some) < c.read {
			wantNotRead(t, "too few", v, some)
			continue
		}
		if s, version, ok := impl.ReadText(v, some); s != c.last() || version != len(c.texts)-1 || !ok {
			t.Errorf("ReadText(%v, %v) is %q %d %v, where %q was written last", v, some, s, version, ok, c.last())
		}
	}
}

// weights tell 1 to 7 of them, from 1 to 10.
func (d *dice) weights() []int {
	var l []int
	greatestOne := 1 + d.below(10)
	for range 1 + d.below(7) {
		l = append(l, 1+d.below(greatestOne))
	}
	return l
}

// chronicle tells one of which nothing is written yet, with the least shares that do, or with greater ones.
func (d *dice) chronicle() chronicle {
	c := chronicleOf(0, 0, d.weights()...)
	all := c.all()
	c.write = all/2 + 1
	c.write += d.below(all - c.write + 1)
	c.read = all - c.write + 1
	if d.below(3) == 0 {
		c.read += d.below(all - c.read + 1)
	}
	return c
}

// enough tells some copies that weigh so much at least, and none that is not needed.
func (d *dice) enough(c chronicle, least int) []int {
	left := numbersBelow(len(c.weights))
	var some []int
	for c.weigh(some) < least {
		k := d.below(len(left))
		some = append(some, left[k])
		left = slices.Delete(left, k, k+1)
	}
	slices.Sort(some)
	return some
}
