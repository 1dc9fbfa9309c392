package tests

import (
	"slices"
	"strings"
	"testing"

	"loop.example/g00274/impl"
)

func wantNewVoting(t *testing.T, weights []int, read int, write int) {
	t.Helper()
	got, ok := impl.NewVoting(weights, read, write)
	wantVoting(t, "NewVoting", got, ok, chronicleOf(read, write, weights...).voting())
}

func wantNoNewVoting(t *testing.T, weights []int, read int, write int) {
	t.Helper()
	got, ok := impl.NewVoting(weights, read, write)
	wantZeroVoting(t, "NewVoting", got, ok)
}

func TestPromise14NewVotingOfSoManyWeights(t *testing.T) {
	wantNoNewVoting(t, nil, 0, 0)
	wantNoNewVoting(t, nil, 1, 1)
	wantNoNewVoting(t, []int{}, 1, 1)
	wantNewVoting(t, []int{1}, 1, 1)
	wantNewVoting(t, []int{10}, 1, 10)
	wantNewVoting(t, []int{10}, 5, 6)
	wantNewVoting(t, slices.Repeat([]int{1}, 7), 4, 4)
	wantNewVoting(t, slices.Repeat([]int{10}, 7), 70, 70)
	wantNoNewVoting(t, slices.Repeat([]int{1}, 8), 5, 5)
	wantNoNewVoting(t, slices.Repeat([]int{10}, 8), 41, 41)
	wantNoNewVoting(t, slices.Repeat([]int{1}, 100000), 50001, 50001)
}

func TestPromise14NewVotingOfEachWeight(t *testing.T) {
	for k := range 3 {
		for _, weight := range append(anyNumbers(), 6) {
			weights := []int{3, 3, 3}
			weights[k] = weight
			all := 6 + weight
			if weight >= 1 && weight <= 10 {
				wantNewVoting(t, weights, all, all)
				wantNewVoting(t, weights, 1, all)
			} else {
				wantNoNewVoting(t, weights, all, all)
				wantNoNewVoting(t, weights, 1, all)
				wantNoNewVoting(t, weights, 4, 4)
			}
		}
	}
	wantNewVoting(t, []int{1, 10}, 6, 6)
	wantNoNewVoting(t, []int{0}, 1, 1)
	wantNoNewVoting(t, []int{11}, 11, 11)
	wantNoNewVoting(t, []int{5, -1}, 3, 3)
}

func TestPromise14NewVotingOfEachShare(t *testing.T) {
	even, odd := []int{1, 2, 1}, []int{1, 1, 1, 2}
	for _, both := range [][2]int{{1, 4}, {2, 3}, {2, 4}, {3, 3}, {4, 3}, {4, 4}} {
		wantNewVoting(t, even, both[0], both[1])
	}
	for _, both := range [][2]int{{0, 4}, {5, 4}, {4, 0}, {4, 5}, {1, 3}, {2, 2}, {4, 2}, {4, 1}, {3, 2}, {-1, 6}, {6, -1}, {5, 5}, {0, 0}} {
		wantNoNewVoting(t, even, both[0], both[1])
	}
	for _, both := range [][2]int{{1, 5}, {2, 4}, {3, 3}, {5, 3}, {5, 5}} {
		wantNewVoting(t, odd, both[0], both[1])
	}
	for _, both := range [][2]int{{0, 5}, {1, 4}, {2, 3}, {4, 2}, {5, 2}, {6, 5}, {5, 6}, {3, 2}} {
		wantNoNewVoting(t, odd, both[0], both[1])
	}
}

// Both together, and twice Write, must not be told by a number that has gone round.
func TestPromise14NewVotingOfAnyShares(t *testing.T) {
	numbers := append(anyNumbers(), 6, 1<<62, 1<<62+1, 1<<61, -1<<62)
	d := &dice{state: 141}
	for range 20 {
		weights := d.weights()
		all := chronicleOf(0, 0, weights...).all()
		for n := -1; n <= all+2; n++ {
			numbers = append(numbers, n)
		}
		slices.Sort(numbers)
		numbers = slices.Compact(numbers)
		for _, read := range numbers {
			for _, write := range numbers {
				if oracleGoodVoting(chronicleOf(read, write, weights...).voting()) {
					wantNewVoting(t, weights, read, write)
				} else {
					wantNoNewVoting(t, weights, read, write)
				}
			}
		}
	}
}

func fiveCopies() chronicle {
	return chronicleOf(5, 6, 3, 1, 2, 1, 3)
}

func TestPromise14WeightIn(t *testing.T) {
	v := fiveCopies().voting()
	for _, c := range []struct {
		some   []int
		weight int
	}{{nil, 0}, {[]int{}, 0}, {[]int{0}, 3}, {[]int{1}, 1}, {[]int{4}, 3}, {[]int{0, 4}, 6}, {[]int{1, 2, 3}, 4}, {[]int{0, 1, 2, 3, 4}, 10}} {
		if n, ok := impl.WeightIn(v, c.some); n != c.weight || !ok {
			t.Errorf("WeightIn %v is %d %v, not %d", c.some, n, ok, c.weight)
		}
	}
}

func TestPromise14SomeThatAreNone(t *testing.T) {
	v := fiveCopies().voting()
	for what, some := range map[string][]int{
		"falling":                   {4, 3, 2, 1, 0},
		"falling at the end":        {0, 1, 2, 4, 3},
		"falling at the beginning":  {1, 0, 2, 3, 4},
		"a number twice":            {0, 1, 2, 2, 3, 4},
		"the first one twice":       {0, 0, 1, 2, 3, 4},
		"the last one twice":        {0, 1, 2, 3, 4, 4},
		"a number twice, far apart": {0, 1, 2, 0},
		"below 0":                   {-1, 0, 1, 2, 3, 4},
		"below 0 alone":             {-1},
		"the least number":          {least, 0, 1, 2, 3, 4},
		"just beyond the last":      {0, 1, 2, 3, 4, 5},
		"just beyond it, alone":     {5},
		"far beyond":                {0, 1, 2, 3, 4, 1000000},
		"the greatest number":       {0, 1, 2, 3, 4, greatest},
		"beyond, but within seven":  {0, 1, 2, 3, 4, 6},
		"many":                      slices.Repeat([]int{0}, 100000),
	} {
		wantNotWeighed(t, what, v, some)
	}
}

func TestPromise14WriteText(t *testing.T) {
	c := fiveCopies()
	wantWritten(t, c.voting(), []int{0, 4}, "just six")
	wantWritten(t, c.voting(), []int{0, 2, 3}, "six again")
	wantWritten(t, c.voting(), []int{0, 1, 2, 3, 4}, "all")
	wantNotWritten(t, "none", c.voting(), nil, "x")
	wantNotWritten(t, "one less", c.voting(), []int{0, 2}, "x")
	wantNotWritten(t, "one less again", c.voting(), []int{0, 1, 3}, "x")
	got, ok := impl.WriteText(c.voting(), []int{0, 1, 2}, "a")
	wantVoting(t, "the first text", got, ok, c.written("a", 0, 1, 2).voting())
	got, ok = impl.WriteText(got, []int{2, 3, 4}, "")
	wantVoting(t, "the empty text", got, ok, c.written("a", 0, 1, 2).written("", 2, 3, 4).voting())
}

func TestPromise14WriteTextOfEachLength(t *testing.T) {
	v := fiveCopies().voting()
	for length := range 20 {
		for _, one := range []string{"a", "\x00", "\xff", "\n"} {
			if text := strings.Repeat(one, length); length <= 12 {
				wantWritten(t, v, []int{0, 4}, text)
			} else {
				wantNotWritten(t, "too long", v, []int{0, 4}, text)
			}
		}
	}
	wantWritten(t, v, []int{0, 4}, strings.Repeat("é", 6))
	wantNotWritten(t, "seven runes of two bytes", v, []int{0, 4}, strings.Repeat("é", 7))
	wantNotWritten(t, "a million bytes", v, []int{0, 4}, strings.Repeat("a", 1000000))
}

// versionsAs are five copies of which those that weigh just Write have a Version.
func versionsAs(version int) impl.Voting {
	return oracleHolding(fiveCopies().voting(), []int{0, 4}, version, "new")
}

func TestPromise14WriteTextUpToTheGreatestVersion(t *testing.T) {
	for _, version := range []int{1, 999998, 999999, 1000000} {
		v := versionsAs(version)
		for _, some := range [][]int{{0, 4}, {0, 1, 2}, {1, 2, 4}, {0, 1, 2, 3, 4}} {
			got, ok := impl.WriteText(v, some, "x")
			if version == 1000000 {
				wantZeroVoting(t, "beyond the greatest Version", got, ok)
			} else {
				wantVoting(t, "up to the greatest Version", got, ok, oracleHolding(v, some, version+1, "x"))
			}
		}
		wantVotingAnswers(t, v)
	}
}

// Some that write need not be those that were written last, but one of them is: its Version is counted on.
func TestPromise14WrittenByOthers(t *testing.T) {
	c := chronicleOf(2, 2, 1, 1, 1).written("a", 0, 1).written("b", 1, 2).written("c", 0, 2).written("d", 0, 1)
	wantLastRead(t, c.voting(), c)
	v, _ := impl.NewVoting([]int{1, 1, 1}, 2, 2)
	for _, step := range []struct {
		some []int
		text string
	}{{[]int{0, 1}, "a"}, {[]int{1, 2}, "b"}, {[]int{0, 2}, "c"}, {[]int{0, 1}, "d"}} {
		v, _ = impl.WriteText(v, step.some, step.text)
	}
	wantVoting(t, "four writes", v, true, c.voting())
	if v.Copies[2].Version != 3 || v.Copies[2].Text != "c" {
		t.Errorf("the last copy was written third, and is %v", v.Copies[2])
	}
}

func TestPromise14ReadTextAndRepairCopies(t *testing.T) {
	c := fiveCopies().written("old", 0, 1, 2, 3, 4).written("new", 0, 4)
	v := c.voting()
	for _, some := range [][]int{{0, 2}, {0, 1, 3}, {1, 3, 4}, {2, 4}, {0, 1, 2, 3, 4}} {
		if s, version, ok := impl.ReadText(v, some); s != "new" || version != 2 || !ok {
			t.Errorf("ReadText %v is %q %d %v", some, s, version, ok)
		}
	}
	for _, some := range [][]int{nil, {0}, {0, 1}, {1, 2, 3}, {1, 4}} {
		wantNotRead(t, "too few", v, some)
	}
	for _, step := range []struct {
		some    []int
		changed int
	}{{[]int{0, 2}, 1}, {[]int{0, 1, 3}, 2}, {[]int{0, 4}, 0}, {[]int{1, 2, 3, 4}, 3}, {[]int{0, 1, 2, 3, 4}, 3}} {
		got, changed, ok := impl.RepairCopies(v, step.some)
		wantVoting(t, "RepairCopies", got, ok, c.withLast(step.some...).voting())
		if changed != step.changed {
			t.Errorf("RepairCopies %v changes %d, not %d", step.some, changed, step.changed)
		}
	}
}

// What was written last counts, also where it is less than what was there, or the same, or nothing.
func TestPromise14TextsAreNotHeldAgainstEachOther(t *testing.T) {
	for _, texts := range [][]string{{"b", "a"}, {"a", "b"}, {"a", "a"}, {"a", ""}, {"", "a"}, {"", ""}, {"longer", "x"}} {
		c := fiveCopies().written(texts[0], 0, 1, 2, 3).written(texts[1], 2, 3, 4)
		wantLastRead(t, c.voting(), c)
		wantVotingAnswers(t, c.voting())
	}
}

func TestPromise14NewestOf(t *testing.T) {
	c := fiveCopies()
	for _, step := range []struct {
		some   []int
		weight int
	}{{[]int{0, 4}, 6}, {[]int{1, 2, 4}, 6}, {[]int{0, 1, 2, 3, 4}, 10}, {[]int{0, 1, 2, 3}, 7}} {
		c = c.written("x", step.some...)
		if version, weight, ok := impl.NewestOf(c.voting()); version != len(c.texts)-1 || weight != step.weight || !ok {
			t.Errorf("NewestOf is %d %d %v behind %v", version, weight, ok, step.some)
		}
	}
	if version, weight, ok := impl.NewestOf(fiveCopies().voting()); version != 0 || weight != 10 || !ok {
		t.Errorf("NewestOf is %d %d %v where nothing is written", version, weight, ok)
	}
}

// However copies are written and repaired, any enough read what was written last.
func TestPromise14AnyEnoughReadWhatWasWrittenLast(t *testing.T) {
	d := &dice{state: 142}
	for range 150 {
		c := d.chronicle()
		v, _ := impl.NewVoting(c.weights, c.read, c.write)
		wantLastRead(t, v, c)
		for range 8 {
			if d.below(3) == 0 {
				some := d.enough(c, c.read)
				v, _, _ = impl.RepairCopies(v, some)
				c = c.withLast(some...)
			} else {
				some, text := d.enough(c, c.write), d.textOf("ab\xff", d.below(13))
				v, _ = impl.WriteText(v, some, text)
				c = c.written(text, some...)
			}
			wantLastRead(t, v, c)
		}
		wantVotingAnswers(t, v)
	}
}

// What is refused changes nothing: the next write counts on from what was there.
func TestPromise14RefusedWritesAreNotSeen(t *testing.T) {
	c := fiveCopies().written("a", 0, 4)
	v := c.voting()
	wantNotWritten(t, "too few", v, []int{1, 2, 3}, "b")
	wantNotWritten(t, "too long", v, []int{0, 4}, strings.Repeat("b", 13))
	wantNotRead(t, "too few", v, []int{1, 2, 3})
	wantLastRead(t, v, c)
	got, ok := impl.WriteText(v, []int{1, 2, 4}, "c")
	wantVoting(t, "WriteText", got, ok, c.written("c", 1, 2, 4).voting())
}
