package tests

import (
	"fmt"
	"maps"
	"slices"
	"testing"

	"loop.example/g00274/impl"
)

func TestPromise19AnyNumberOfTheBest(t *testing.T) {
	w := threeWords()
	l := threeRankings()
	for _, n := range anyNumbers() {
		var best []impl.Scored
		isMany := n >= 0 && n <= 60
		if isMany {
			wantBest(t, l, n, oracleDepths(l, n))
			best = scored(2, 200, 1, 4, 0, 2)[:min(n, 3)]
		} else {
			wantNoBest(t, "any number", l, n)
		}
		if n >= 0 && n <= 1000 {
			wantSum(t, l, n, oracleSum(l, n))
		} else {
			wantNoSum(t, "any number", l, n)
		}
		if got, ok := impl.RankTexts(w, []string{"a"}, n); ok != isMany || !slices.Equal(got, best) {
			t.Errorf("RankTexts %d is %v %v", n, got, ok)
		}
		score := map[int]int{2: 12}[n]
		if got, ok := impl.ScoreOf(w, []string{"cat"}, n); ok != (n >= 0 && n < 4) || got != score {
			t.Errorf("ScoreOf in text %d is %d %v", n, got, ok)
		}
	}
}

func TestPromise19AnyRankings(t *testing.T) {
	d := &dice{state: 117}
	numbers := anyNumbers()
	for range 4000 {
		var l []impl.Ranking
		for range d.below(8) {
			var r impl.Ranking
			for range d.below(4) {
				r.List = append(r.List, impl.Scored{Id: numbers[d.below(len(numbers))], Score: numbers[d.below(len(numbers))]})
			}
			l = append(l, r)
		}
		wantAsTheRulesSay(t, "any rankings", l)
		for _, n := range numbers {
			impl.SumOf(l, n)
			impl.AllBest(l, n)
			impl.TopBest(l, n)
		}
	}
}

func TestPromise19AnyWordsAreScored(t *testing.T) {
	d := &dice{state: 118}
	for range 1000 {
		w := d.pages(5).words()
		d.disturbWords(&w)
		words := [][]string{nil, {"a"}, {"cat", "dog"}, {"A"}, {"b0", "zz", "9"}, {"a", "a"}, {""}}[d.below(7)]
		if !impl.GoodWords(w) {
			wantNoScores(t, "any words", w, words)
			continue
		}
		for _, n := range anyNumbers() {
			impl.ScoreOf(w, words, n)
			impl.RankTexts(w, words, n)
		}
		impl.RankingsFor(w, words)
	}
}

// topArgs are the arguments of all functions of the chapter; n is taken as an id, as a text, and as how many.
type topArgs struct {
	rankings []impl.Ranking
	words    impl.Words
	asked    []string
	n        int
}

// topAnswer holds all lists that a function of the chapter answers, and tells the rest.
type topAnswer struct {
	rankings []impl.Ranking
	best     []impl.Scored
	told     string
}

func (a topAnswer) tell() string {
	return fmt.Sprintf("%v %v %s", a.rankings, a.best, a.told)
}

func bestPiece(l []impl.Scored) piece {
	return pieceOf(l, impl.Scored{Id: 77, Score: 78}, func(x impl.Scored) any { return x })
}

func rankingsPieces(l []impl.Ranking) []piece {
	all := []piece{pieceOf(l, impl.Ranking{List: make([]impl.Scored, 99)}, func(r impl.Ranking) any { return len(r.List) })}
	for _, r := range l[:cap(l)] {
		all = append(all, bestPiece(r.List))
	}
	return all
}

func (a topArgs) pieces() []piece {
	return slices.Concat(rankingsPieces(a.rankings), wordsPieces(a.words), []piece{textsPiece(a.asked)})
}

func (a topAnswer) pieces() []piece {
	return append(rankingsPieces(a.rankings), bestPiece(a.best))
}

func (a topAnswer) wantNothingBehind(t *testing.T, what string) {
	t.Helper()
	wantEmptyBehind(t, what, a.best)
	for _, r := range a.rankings {
		wantEmptyBehind(t, what, r.List)
	}
	for _, r := range a.rankings[len(a.rankings):cap(a.rankings)] {
		if r.List != nil {
			t.Errorf("%s: behind the rankings lies %v", what, r)
		}
	}
}

func topCalls() map[string]func(topArgs) topAnswer {
	return map[string]func(topArgs) topAnswer{
		"GoodRankings": func(a topArgs) topAnswer {
			return topAnswer{told: fmt.Sprint(impl.GoodRankings(a.rankings))}
		},
		"SumOf": func(a topArgs) topAnswer {
			sum, ok := impl.SumOf(a.rankings, a.n)
			return topAnswer{told: fmt.Sprint(sum, ok)}
		},
		"AllBest": func(a topArgs) topAnswer {
			l, ok := impl.AllBest(a.rankings, a.n)
			return topAnswer{best: l, told: fmt.Sprint(ok)}
		},
		"TopBest": func(a topArgs) topAnswer {
			l, depths, ok := impl.TopBest(a.rankings, a.n)
			return topAnswer{best: l, told: fmt.Sprint(depths, ok)}
		},
		"ScoreOf": func(a topArgs) topAnswer {
			sum, ok := impl.ScoreOf(a.words, a.asked, a.n)
			return topAnswer{told: fmt.Sprint(sum, ok)}
		},
		"RankTexts": func(a topArgs) topAnswer {
			l, ok := impl.RankTexts(a.words, a.asked, a.n)
			return topAnswer{best: l, told: fmt.Sprint(ok)}
		},
		"RankingsFor": func(a topArgs) topAnswer {
			l, ok := impl.RankingsFor(a.words, a.asked)
			return topAnswer{rankings: l, told: fmt.Sprint(ok)}
		},
	}
}

// behind is the same in new memory, in which more lies behind the length of each list.
func (a topArgs) behind() topArgs {
	var made []impl.Ranking
	for _, r := range a.rankings {
		made = append(made, impl.Ranking{List: slices.Concat(r.List, scored(999, 1, -5, 0))[:len(r.List)]})
	}
	made = append(made, rank(998, 1000000), rank(-1, 0))[:len(a.rankings)]
	return topArgs{rankings: made, words: wordsBehind(a.words), asked: textsBehind(a.asked), n: a.n}
}

func askedUnlike() [][]string {
	return [][]string{nil, {"a"}, {"a", "cat", "x9"}, {"nowhere"}, {"x9", "nowhere", "a"}, {"A"}, {"a", "a"}, manyUnlike(5), manyUnlike(6)}
}

func goodRankings() [][]impl.Ranking {
	return [][]impl.Ranking{
		nil,
		{{}, {}},
		threeRankings(),
		slices.Repeat([]impl.Ranking{manyScored(60, 0, 900, 1)}, 5),
		{rank(4, 7), manyScored(20, 0, 5, 0), {}},
	}
}

// badRankings are some that break a rule, each small enough to be told often.
func badRankings() [][]impl.Ranking {
	var all [][]impl.Ranking
	broken := brokenRankings()
	for _, what := range slices.Sorted(maps.Keys(broken)) {
		if l := broken[what]; len(l) < 100 && longestOf(l) < 100 {
			all = append(all, l)
		}
	}
	return all
}

// argsWith puts rankings together with words that are good, words that are not, and numbers.
func argsWith(rankings [][]impl.Ranking) []topArgs {
	words := []impl.Words{{}, {Texts: 4}, threeWords(), textsAs(41), wordAs(1, "cAt"), listAs(0), slices.Repeat(pages{"cat a", "x9 a a", "", "a"}, 10).words()}
	var all []topArgs
	for k, l := range rankings {
		for n, asked := range askedUnlike() {
			all = append(all, topArgs{l, words[(k+n)%len(words)], asked, []int{-1, 0, 1, 2, 7, 60, 61}[(k+n*2)%7]})
			all = append(all, topArgs{l, threeWords(), asked, []int{1, 3, 60, 2}[(k+n)%4]})
		}
	}
	return all
}

func TestPromise19TopLeavesArgumentsAsTheyWere(t *testing.T) {
	for _, a := range argsWith(append(goodRankings(), badRankings()...)) {
		arg := a.behind()
		pieces := arg.pieces()
		before := tellPieces(pieces)
		for name, call := range topCalls() {
			got, want := call(arg), call(a)
			if got.tell() != want.tell() {
				t.Errorf("%s reads what lies behind a length: %s, not %s", name, got.tell(), want.tell())
			}
			got.wantNothingBehind(t, name)
			for _, p := range got.pieces() {
				p.spoil()
			}
		}
		if !slices.Equal(tellPieces(pieces), before) {
			t.Errorf("an argument is written into, or changed with an answer: %v", a)
		}
	}
}

func TestPromise19TopAnswersShareNothing(t *testing.T) {
	for _, a := range argsWith(goodRankings()) {
		for name, call := range topCalls() {
			arg := a.behind()
			first, second := call(arg), call(arg)
			wantApart(t, fmt.Sprintf("%s of %v", name, a), slices.Concat(first.pieces(), second.pieces(), arg.pieces()))
		}
	}
}

// Lists that could grow into one another share memory, too.
func TestPromise19RankingsGrowAlone(t *testing.T) {
	l, _ := impl.RankingsFor(threeWords(), []string{"a", "cat", "nowhere", "x9"})
	before := fmt.Sprint(l)
	for _, r := range l {
		_ = append(r.List, impl.Scored{Id: 77, Score: 78})
	}
	_ = append(l, impl.Ranking{})
	if fmt.Sprint(l) != before {
		t.Errorf("the lists of one answer share memory: %v", l)
	}
}

// Lists that share memory in an argument share none with an answer.
func TestPromise19RankingsOfSharedMemory(t *testing.T) {
	list := scored(5, 9, 1, 4, 2, 4)
	l := []impl.Ranking{{List: list}, {List: list}, {List: list[:1]}, {List: list[1:]}}
	all, _ := impl.AllBest(l, 3)
	top, _, _ := impl.TopBest(l, 3)
	wantBest(t, l, 3, oracleDepths(l, 3))
	wantApart(t, "the best", []piece{bestPiece(all), bestPiece(top), bestPiece(list)})
}

// An answer stays as it was, whatever is done to the arguments later.
func TestPromise19TopAnswersOfLaterChangedArguments(t *testing.T) {
	for _, a := range argsWith(goodRankings()) {
		for name, call := range topCalls() {
			arg := a.behind()
			got := call(arg)
			before := got.tell()
			for _, p := range arg.pieces() {
				p.spoil()
			}
			if again := call(a); got.tell() != before || again.tell() != before {
				t.Errorf("%s of %v changed with an argument: %s, not %s", name, a, got.tell(), before)
			}
		}
	}
}

// Nothing is kept from call to call.
func TestPromise19TopAnswersTheSameAgain(t *testing.T) {
	d := &dice{state: 119}
	for range 60 {
		a := topArgs{d.rankings(), d.pages(6).words(), []string{"a", "cat"}, d.below(61)}
		first := map[string]string{}
		for name, call := range topCalls() {
			first[name] = call(a).tell()
		}
		impl.TopBest(d.rankings(), 3)
		impl.RankTexts(d.pages(3).words(), []string{"cat"}, 2)
		for name, call := range topCalls() {
			if again := call(a).tell(); again != first[name] {
				t.Errorf("%s of %v is %s, not %s", name, a, again, first[name])
			}
		}
	}
}
