package tests

import (
	"slices"
	"strings"
	"testing"

	"loop.example/g00274/impl"
)

func TestPromise12RanksOfBanana(t *testing.T) {
	wantRanks(t, "banana", 1, 0, []int{1, 0, 2, 0, 2, 0})
	// The stretches of at most two bytes: ba, an, na, an, na, a.
	wantRanks(t, "banana", 2, 0, []int{2, 1, 3, 1, 3, 0})
	wantRanks(t, "banana", 1, 1, []int{2, 1, 3, 1, 3, 0})
	// Of at most three: ban, ana, nan, ana, na, a.
	wantRanks(t, "banana", 3, 0, []int{2, 1, 4, 1, 3, 0})
	// Of at most four: bana, anan, nana, ana, na, a.
	wantRanks(t, "banana", 2, 1, []int{3, 2, 5, 1, 4, 0})
	wantRanks(t, "banana", 4, 0, []int{3, 2, 5, 1, 4, 0})
	wantRanks(t, "banana", 120, 0, []int{3, 2, 5, 1, 4, 0})
	wantRanks(t, "banana", 120, 1, []int{3, 2, 5, 1, 4, 0})
}

func TestPromise12RanksOfNoText(t *testing.T) {
	for k := 1; k <= 120; k++ {
		wantRanks(t, "", k, 0, nil)
		wantRanks(t, "", k, 1, nil)
	}
}

// Unlike stretches are counted, however often one of them stands.
func TestPromise12RanksCountUnlikeOnes(t *testing.T) {
	wantRanks(t, "aaaab", 1, 0, []int{0, 0, 0, 0, 1})
	wantRanks(t, "baaaa", 1, 0, []int{1, 0, 0, 0, 0})
	wantRanks(t, "aaaab", 1, 1, []int{0, 0, 0, 1, 2})
	wantRanks(t, "baaaa", 1, 1, []int{2, 1, 1, 1, 0})
	wantRanks(t, "\xff\x00\xff", 1, 0, []int{1, 0, 1})
	wantRanks(t, "\xff\x00\xff", 1, 1, []int{2, 0, 1})
	wantRanks(t, "\x00\x00\x00", 1, 1, []int{1, 1, 0})
	wantRanks(t, "\x00\x00\x00", 2, 1, []int{2, 1, 0})
}

func TestPromise12RanksByEachNumberOfBytes(t *testing.T) {
	for _, s := range []string{"a", "banana", fibonacciText(40), "\x00\xff\x00\x00\xff", "éèéè"} {
		for k := 1; k <= 120; k++ {
			wantRanksBy(t, s, k)
		}
	}
	for _, s := range someTexts() {
		for _, k := range []int{1, 2, 3, 7, 30, 59, 60, 61, 119, 120} {
			wantRanksBy(t, s, k)
		}
	}
}

func TestPromise12RanksOfAllShortTexts(t *testing.T) {
	for _, s := range slices.Concat(eachText("ab", 7), eachText("\x00a\xff", 4)) {
		for k := 1; k <= 8; k++ {
			wantRanksBy(t, s, k)
		}
	}
}

func TestPromise12RanksOfManyTexts(t *testing.T) {
	d := &dice{state: 123}
	for range 400 {
		wantRanksBy(t, d.ending(), 1+d.below([]int{4, 20, 120}[d.below(3)]))
	}
}

func TestPromise12RanksByNoSuchNumber(t *testing.T) {
	for _, s := range []string{"", "a", "banana", strings.Repeat("a", 120)} {
		for _, k := range []int{least, -120, -1, 0, 121, 122, 240, 1 << 32, 1<<32 + 1, greatest} {
			for _, doubled := range []int{-1, 0, 1, 2} {
				wantNoRanks(t, s, k, doubled)
			}
		}
		for _, doubled := range []int{least, -2, -1, 2, 3, 120, 1 << 32, 1<<32 + 1, greatest} {
			for _, k := range []int{0, 1, 2, 60, 120, 121} {
				wantNoRanks(t, s, k, doubled)
			}
		}
	}
}

// ranksOfPairs tells how many unlike pairs are less, of the rank of each place and of the one k behind it.
func ranksOfPairs(ranks []int, k int) []int {
	var pairs [][]int
	for place, rank := range ranks {
		pair := []int{rank, -1}
		if place+k < len(ranks) {
			pair[1] = ranks[place+k]
		}
		pairs = append(pairs, pair)
	}
	var twice []int
	for _, pair := range pairs {
		var less [][]int
		for _, other := range pairs {
			isNew := !slices.ContainsFunc(less, func(l []int) bool { return slices.Equal(l, other) })
			if isNew && slices.Compare(other, pair) < 0 {
				less = append(less, other)
			}
		}
		twice = append(twice, len(less))
	}
	return twice
}

func TestPromise12RanksTellRanksByTwiceAsMany(t *testing.T) {
	d := &dice{state: 124}
	texts := someTexts()
	for range 60 {
		texts = append(texts, d.ending())
	}
	for _, s := range texts {
		for _, k := range []int{1, 2, 3, 5, 8, 20, 60, 61, 120} {
			ranks, ok := impl.RankOf(s, k, 0)
			if !ok {
				t.Fatalf("RankOf(%q, %d, 0) tells none", s, k)
			}
			twice := ranksOfPairs(ranks, k)
			wantRanks(t, s, k, 1, twice)
			if 2*k <= 120 {
				wantRanks(t, s, 2*k, 0, twice)
			}
		}
	}
}

// Ranks by as many bytes as the text has are those of its endings: places by their ranks are the list.
func TestPromise12RanksOfWholeEndings(t *testing.T) {
	for _, s := range someTexts() {
		ranks, _ := impl.RankOf(s, 60, 1)
		l := make([]int, len(s))
		for place, rank := range ranks {
			l[rank] = place
		}
		wantSuffixes(t, s, l)
	}
}
