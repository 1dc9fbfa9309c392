package tests

import (
	"slices"
	"testing"

	"loop.example/g00274/impl"
)

func wantMeet(t *testing.T, a []int, b []int, weights []int, want bool) {
	t.Helper()
	for range 2 {
		if meet, ok := impl.AlwaysMeet(a, b, weights); meet != want || !ok {
			t.Errorf("AlwaysMeet(%v, %v, %v) is %v %v, not %v", a, b, weights, meet, ok, want)
		}
		a, b = b, a
	}
}

func wantNoMeeting(t *testing.T, what string, a []int, b []int, weights []int) {
	t.Helper()
	for range 2 {
		if meet, ok := impl.AlwaysMeet(a, b, weights); meet || ok {
			t.Errorf("%s: AlwaysMeet(%v, %v, %v) is %v %v", what, a, b, weights, meet, ok)
		}
		a, b = b, a
	}
}

func TestPromise14AlwaysMeet(t *testing.T) {
	weights := []int{3, 1, 2, 1, 3}
	wantMeet(t, []int{0, 1}, []int{0, 4}, weights, true)
	wantMeet(t, []int{0, 4}, []int{1, 2, 4}, weights, true)
	wantMeet(t, []int{0, 2, 4}, []int{1, 2, 3}, weights, true)
	wantMeet(t, []int{0, 1, 2, 3, 4}, []int{3}, weights, true)
	wantMeet(t, []int{0, 2, 4}, []int{1, 3}, weights, false)
	wantMeet(t, []int{0, 1, 2}, []int{3, 4}, weights, false)
	wantMeet(t, []int{0}, []int{4}, weights, false)
	wantMeet(t, nil, []int{0, 1, 2, 3, 4}, weights, false)
	wantMeet(t, []int{}, nil, weights, false)
	wantMeet(t, nil, nil, nil, false)
	wantMeet(t, []int{0}, []int{0}, []int{1}, true)
	wantMeet(t, []int{6}, []int{5, 6}, slices.Repeat([]int{1}, 7), true)
}

func TestPromise14AlwaysMeetOfEachSet(t *testing.T) {
	for many := range 8 {
		sets := setsBelow(many)
		for _, a := range sets {
			for _, b := range sets {
				want := slices.ContainsFunc(a, func(k int) bool { return slices.Contains(b, k) })
				if meet, ok := impl.AlwaysMeet(a, b, make([]int, many)); meet != want || !ok {
					t.Errorf("AlwaysMeet(%v, %v) of %d is %v %v", a, b, many, meet, ok)
				}
			}
		}
	}
}

// The weights need be none of a voting: how many there are counts alone.
func TestPromise14AlwaysMeetOfAnyWeights(t *testing.T) {
	for _, n := range append(anyNumbers(), -3, 77) {
		for many := range 10 {
			weights := slices.Repeat([]int{n}, many)
			if many > 7 {
				wantNoMeeting(t, "too many weights", []int{0}, []int{0}, weights)
				wantNoMeeting(t, "too many weights", nil, nil, weights)
				continue
			}
			wantMeet(t, numbersBelow(many), numbersBelow(many), weights, many > 0)
			wantMeet(t, numbersBelow(many), nil, weights, false)
			if many > 2 {
				wantMeet(t, []int{0, 1}, []int{2}, weights, false)
			}
		}
	}
	wantNoMeeting(t, "a hundred thousand weights", []int{0}, []int{0}, make([]int, 100000))
}

func TestPromise14AlwaysMeetOfListsThatAreNone(t *testing.T) {
	weights := []int{3, 1, 2, 1, 3}
	for what, a := range map[string][]int{
		"falling":              {1, 0},
		"falling at the end":   {0, 1, 3, 2},
		"a number twice":       {0, 0},
		"a number twice later": {0, 1, 4, 4},
		"below 0":              {-1},
		"below 0, and more":    {-1, 0, 1},
		"the least number":     {least, 0},
		"just beyond":          {5},
		"just beyond, behind":  {0, 1, 5},
		"beyond, within seven": {0, 6},
		"the greatest number":  {0, greatest},
		"many":                 slices.Repeat([]int{0}, 100000),
	} {
		for _, b := range [][]int{nil, {0}, {1, 2}, {0, 1, 2, 3, 4}, a} {
			wantNoMeeting(t, what, a, b, weights)
		}
		wantNoMeeting(t, what+", no weights", a, nil, nil)
	}
	wantNoMeeting(t, "a number and no weights", []int{0}, nil, nil)
	for many := range 8 {
		wantNoMeeting(t, "just beyond", []int{many}, nil, make([]int, many))
	}
}

// Of a good voting any two that may write meet, and any that may read meets any that may write; so no write is missed.
func TestPromise14AnyEnoughMeet(t *testing.T) {
	d := &dice{state: 143}
	chronicles := []chronicle{fiveCopies(), chronicleOf(2, 2, 1, 1, 1), chronicleOf(1, 1, 1), chronicleOf(35, 36, 10, 10, 10, 10, 10, 10, 10)}
	for range 12 {
		chronicles = append(chronicles, d.chronicle())
	}
	for _, c := range chronicles {
		v, ok := impl.NewVoting(c.weights, c.read, c.write)
		if !ok {
			t.Fatalf("NewVoting of %v, %d and %d tells none", c.weights, c.read, c.write)
		}
		sets := setsBelow(len(c.weights))
		for _, writes := range sets {
			if weight, _ := impl.WeightIn(v, writes); weight < c.write {
				continue
			}
			for _, other := range sets {
				if weight, _ := impl.WeightIn(v, other); weight < min(c.read, c.write) {
					continue
				}
				if meet, ok := impl.AlwaysMeet(writes, other, c.weights); c.weigh(other) >= c.read && !meet || c.weigh(other) >= c.write && !meet || !ok {
					t.Errorf("%v and %v of %v do not meet", writes, other, v)
				}
			}
		}
	}
}

// Where the shares are less than what a voting asks for, two that weigh so much do not meet: so no less would do.
func TestPromise14LessThanEnoughNeedNotMeet(t *testing.T) {
	weights := []int{1, 2, 1}
	wantNoNewVoting(t, weights, 2, 2)
	wantMeet(t, []int{0, 2}, []int{1}, weights, false)
	wantNoNewVoting(t, weights, 1, 3)
	wantMeet(t, []int{0, 1}, []int{2}, weights, false)
}
