package tests

import (
	"slices"
	"testing"

	"loop.example/g00274/impl"
)

func TestPromise11Constants(t *testing.T) {
	if impl.MaxLists != 5 || impl.MaxScored != 60 {
		t.Error(impl.MaxLists, impl.MaxScored)
	}
}

// threeRankings are good: of unlike length, 7 in each list, 1000 and 0 in one alone.
func threeRankings() []impl.Ranking {
	return []impl.Ranking{
		rank(1000, 1000000, 7, 9, 8, 9, 2, 1),
		rank(2, 30, 7, 30),
		rank(0, 12, 8, 12, 9, 12, 7, 4, 1, 1),
	}
}

func TestPromise11SumOfAnId(t *testing.T) {
	l := threeRankings()
	for id, want := range map[int]int{7: 43, 8: 21, 2: 31, 1000: 1000000, 0: 12, 9: 12, 1: 1, 3: 0, 999: 0, 500: 0} {
		wantSum(t, l, id, want)
	}
	for id := range 1001 {
		wantSum(t, nil, id, 0)
		wantSum(t, []impl.Ranking{{}, {}}, id, 0)
		wantSum(t, l, id, oracleSum(l, id))
	}
	for id, want := range map[int]int{0: 5000000, 1000: 5, 1: 0} {
		wantSum(t, slices.Repeat([]impl.Ranking{rank(0, 1000000, 1000, 1)}, 5), id, want)
	}
}

// A number beyond 0..1000 is no id: it has no sum, where an id that stands in no list has the sum 0.
func TestPromise11SumOfWhatIsNoId(t *testing.T) {
	for _, id := range []int{least, -1001, -1000, -2, -1, 1001, 1002, 1000000, 1 << 32, 1<<32 + 7, greatest} {
		wantNoSum(t, "no lists", nil, id)
		wantNoSum(t, "an empty list", []impl.Ranking{{}}, id)
		wantNoSum(t, "one entry", []impl.Ranking{rank(0, 5)}, id)
		wantNoSum(t, "three lists", threeRankings(), id)
	}
}

func TestPromise11SumOfTheLeastAndGreatestId(t *testing.T) {
	for _, id := range []int{0, 1, 999, 1000} {
		wantSum(t, nil, id, 0)
		wantSum(t, []impl.Ranking{{}}, id, 0)
		wantSum(t, []impl.Ranking{rank(500, 5)}, id, 0)
		wantSum(t, []impl.Ranking{rank(id, 5)}, id, 5)
	}
}

func TestPromise11SumsOfManyRankings(t *testing.T) {
	d := &dice{state: 111}
	for range 500 {
		l := d.rankings()
		for range 20 {
			id := d.below(1001)
			wantSum(t, l, id, oracleSum(l, id))
		}
		for _, r := range l {
			for _, x := range r.List {
				wantSum(t, l, x.Id, oracleSum(l, x.Id))
			}
		}
	}
}

func TestPromise11TheBestInOrder(t *testing.T) {
	l := threeRankings()
	want := scored(1000, 1000000, 7, 43, 2, 31, 8, 21, 0, 12, 9, 12, 1, 1)
	for k := range 61 {
		wantBestOf(t, l, k, want[:min(k, 7)])
	}
	wantEachBest(t, l)
	slices.Reverse(l)
	for k := range 61 {
		wantBestOf(t, l, k, want[:min(k, 7)])
	}
}

func TestPromise11BestOfSoMany(t *testing.T) {
	for name, l := range map[string][]impl.Ranking{
		"no lists":        nil,
		"empty lists":     {{}, {}, {}, {}, {}},
		"one":             {rank(3, 1)},
		"three lists":     threeRankings(),
		"the longest":     {manyScored(60, 0, 1000000, 0)},
		"five apart":      {manyScored(60, 0, 900, 1), manyScored(60, 60, 900, 2), manyScored(60, 120, 900, 3), manyScored(60, 180, 900, 0), manyScored(60, 941, 900, 15)},
		"five times same": slices.Repeat([]impl.Ranking{manyScored(60, 941, 1000000, 1)}, 5),
	} {
		all := len(oracleBest(l, 1000))
		for _, k := range []int{0, 1, all - 1, all, all + 1, 59, 60} {
			if k >= 0 && k <= 60 {
				wantBest(t, l, k, oracleDepths(l, k))
			}
		}
		for _, k := range []int{least, -60, -2, -1, 61, 62, 300, 1 << 32, 1<<32 + 1, greatest} {
			wantNoBest(t, name, l, k)
		}
	}
}

// Of k 0 no depth is looked at.
func TestPromise11BestNone(t *testing.T) {
	for _, l := range [][]impl.Ranking{nil, {{}}, {rank(1, 1)}, threeRankings(), {manyScored(60, 0, 60, 1)}} {
		wantBest(t, l, 0, 0)
	}
}

func TestPromise11StopsFarAheadOfTheEnds(t *testing.T) {
	// 500 leads in all lists; ids behind it are unlike in each.
	var l []impl.Ranking
	for k := range 5 {
		l = append(l, impl.Ranking{List: slices.Concat(scored(500, 1000000), manyScored(59, k*60, 90, 1).List)})
	}
	wantBest(t, l, 1, 2)
	wantBest(t, l, 2, 60)
	wantBest(t, l[:1], 1, 2)
	wantBest(t, l[:1], 2, 3)
	wantBest(t, l[:1], 59, 60)

	same := slices.Repeat([]impl.Ranking{manyScored(60, 7, 60, 1)}, 3)
	for k := 1; k < 60; k++ {
		wantBest(t, same, k, k+1)
	}
	wantBest(t, same, 60, 60)
}

// What is met deep in one list, and leads in another one, is summed when it is met first.
func TestPromise11StopsWithSumsFromBelow(t *testing.T) {
	// The threshold of the second depth is 93: 1 is above it by what it has at the end of the other list.
	high := impl.Ranking{List: slices.Concat(scored(1, 92, 2, 90), manyScored(58, 10, 5, 0).List)}
	low := impl.Ranking{List: slices.Concat(scored(2, 80), manyScored(58, 100, 3, 0).List, scored(1, 2))}
	wantBest(t, []impl.Ranking{high, low}, 1, 2)
	wantBest(t, []impl.Ranking{high, low}, 2, 2)
	wantBest(t, []impl.Ranking{low, high}, 2, 2)
	wantBest(t, []impl.Ranking{high, low}, 3, 60)
}

// 9 has just the threshold at the second depth; 4, which was not met there, has as much, and stands ahead.
func TestPromise11GoesOnWhereASumIsJustTheThreshold(t *testing.T) {
	l := []impl.Ranking{rank(9, 8, 1, 5, 4, 5), rank(2, 7, 3, 5, 4, 5, 9, 2)}
	wantBestOf(t, l, 1, scored(4, 10))
	wantBest(t, l, 1, 4)
	wantBestOf(t, l, 2, scored(4, 10, 9, 10))
	wantBest(t, l, 2, 4)

	alone := []impl.Ranking{rank(1, 9, 2, 8, 3, 8, 4, 8, 5, 7)}
	wantBest(t, alone, 1, 2)
	wantBest(t, alone, 2, 5)
	wantBest(t, alone, 4, 5)
	wantBest(t, alone, 5, 5)
	wantBest(t, []impl.Ranking{manyScored(60, 0, 7, 0)}, 1, 60)
	wantBest(t, []impl.Ranking{manyScored(60, 0, 7, 0), manyScored(60, 0, 7, 0)}, 1, 60)
	// One more than the threshold is enough.
	wantBest(t, []impl.Ranking{rank(9, 8, 1, 5, 4, 5), rank(2, 7, 3, 5, 4, 5, 9, 3)}, 1, 2)
}

// A list that has ended adds nothing to the threshold.
func TestPromise11ListsOfUnlikeLength(t *testing.T) {
	long := manyScored(60, 100, 60, 1)
	wantBest(t, []impl.Ranking{long, rank(1, 60)}, 1, 2)
	wantBest(t, []impl.Ranking{rank(1, 60), long}, 2, 2)
	wantBest(t, []impl.Ranking{rank(1, 60), long}, 3, 3)
	wantBest(t, []impl.Ranking{rank(1, 1000000), long}, 1, 2)
	wantBest(t, []impl.Ranking{rank(1, 30), long, rank(2, 30)}, 1, 2)
	wantBest(t, []impl.Ranking{rank(1, 30), long, rank(2, 30)}, 30, 31)
	wantBest(t, []impl.Ranking{rank(1, 30), long, rank(2, 30)}, 31, 32)
	wantBest(t, []impl.Ranking{rank(1, 30), long, rank(2, 30)}, 33, 32)
	wantBest(t, []impl.Ranking{rank(1, 3), rank(2, 2, 3, 1)}, 60, 2)
	wantBest(t, []impl.Ranking{rank(1, 5, 2, 5, 3, 5), rank(4, 1), rank(5, 1, 6, 1)}, 7, 3)
}

func TestPromise11EmptyLists(t *testing.T) {
	for many := range 6 {
		for _, k := range []int{0, 1, 60} {
			wantBest(t, make([]impl.Ranking, many), k, 0)
		}
	}
	for at := range 5 {
		l := make([]impl.Ranking, 5)
		l[at] = rank(3, 9, 1, 7, 2, 7)
		wantBest(t, l, 0, 0)
		wantBest(t, l, 1, 2)
		wantBest(t, l, 2, 3)
		wantBest(t, l, 3, 3)
		wantBest(t, l, 60, 3)
	}
}

// The ends of the lists are met where there is no less: the depths are those of the longest list.
func TestPromise11AllDepthsOfMoreThanThereAre(t *testing.T) {
	for _, many := range []int{1, 2, 30, 59, 60} {
		l := []impl.Ranking{rank(1, 1), manyScored(many, 900, 100, 1), {}}
		wantBest(t, l, min(many+2, 60), many)
	}
}

func TestPromise11BestOfMostLists(t *testing.T) {
	var l []impl.Ranking
	for k := range 5 {
		l = append(l, manyScored(60, 10*k, 1000000, k))
	}
	wantEachBest(t, l)
	wantBestOf(t, l, 1, oracleBest(l, 1))
	top := slices.Repeat([]impl.Ranking{rank(0, 1000000, 1000, 1000000)}, 5)
	wantBestOf(t, top, 60, scored(0, 5000000, 1000, 5000000))
	wantBest(t, top, 1, 2)
}

func TestPromise11BestOfManyRankings(t *testing.T) {
	d := &dice{state: 112}
	ahead, ends := 0, 0
	for range 600 {
		l := d.rankings()
		wantEachBest(t, l)
		_, depths, _ := impl.TopBest(l, 2)
		if depths < longestOf(l) {
			ahead++
		} else {
			ends++
		}
	}
	if ahead < 100 || ends < 100 {
		t.Errorf("%d stop ahead of the ends, %d at them: that tells little", ahead, ends)
	}
}

// Whatever the depth at which it stops, what was not met there has no more than the threshold.
func TestPromise11WhatWasNotMetIsNoMoreThanTheThreshold(t *testing.T) {
	d := &dice{state: 113}
	for range 300 {
		l := d.rankings()
		best, depths, _ := impl.TopBest(l, 3)
		met, threshold := map[int]int{}, 0
		for _, r := range l {
			for k, x := range r.List[:min(depths, len(r.List))] {
				met[x.Id]++
				if k == depths-1 {
					threshold += x.Score
				}
			}
		}
		for id := range 1001 {
			if met[id] == 0 && oracleSum(l, id) > threshold {
				t.Errorf("%d is above %d, but was not met in %v", id, threshold, l)
			}
		}
		for _, x := range best {
			if met[x.Id] == 0 {
				t.Errorf("%v was not met in %v", x, l)
			}
		}
	}
}
