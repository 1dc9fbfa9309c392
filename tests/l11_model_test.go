package tests

import (
	"cmp"
	"slices"
	"testing"

	"loop.example/g00274/impl"
)

// rank takes an id and its score in turn.
func rank(numbers ...int) impl.Ranking {
	return impl.Ranking{List: scored(numbers...)}
}

func scored(numbers ...int) []impl.Scored {
	var l []impl.Scored
	for k := 0; k+1 < len(numbers); k += 2 {
		l = append(l, impl.Scored{Id: numbers[k], Score: numbers[k+1]})
	}
	return l
}

// manyScored has that many ids from first on, each with the same score, or with one less than the one ahead.
func manyScored(many int, first int, score int, less int) impl.Ranking {
	var r impl.Ranking
	for k := range many {
		r.List = append(r.List, impl.Scored{Id: first + k, Score: score - k*less})
	}
	return r
}

func standsAhead(a impl.Scored, b impl.Scored) bool {
	if a.Score == b.Score {
		return a.Id < b.Id
	}
	return a.Score > b.Score
}

func inOrder(l []impl.Scored) []impl.Scored {
	slices.SortFunc(l, func(a, b impl.Scored) int { return cmp.Compare(b.Score, a.Score)*2 + cmp.Compare(a.Id, b.Id) })
	return l
}

func oracleGoodRanking(l []impl.Scored) bool {
	if len(l) > 60 {
		return false
	}
	for k, x := range l {
		if x.Id < 0 || x.Id > 1000 || x.Score < 1 || x.Score > 1000000 {
			return false
		}
		for _, other := range l[:k] {
			if other.Id == x.Id || !standsAhead(other, x) {
				return false
			}
		}
	}
	return true
}

func oracleGoodRankings(l []impl.Ranking) bool {
	for _, r := range l {
		if !oracleGoodRanking(r.List) {
			return false
		}
	}
	return len(l) <= 5
}

func oracleSum(l []impl.Ranking, id int) int {
	sum := 0
	for _, r := range l {
		for _, x := range r.List {
			if x.Id == id {
				sum += x.Score
			}
		}
	}
	return sum
}

// oracleBest takes the sum of each id that there can be, one by one.
func oracleBest(l []impl.Ranking, k int) []impl.Scored {
	var all []impl.Scored
	for id := range 1001 {
		if sum := oracleSum(l, id); sum > 0 {
			all = append(all, impl.Scored{Id: id, Score: sum})
		}
	}
	return inOrder(all)[:min(k, len(all))]
}

// stopsAt tells whether so many depths are enough, by the lists' fronts alone.
func stopsAt(l []impl.Ranking, k int, depths int) bool {
	threshold := 0
	met := map[int]int{}
	for _, r := range l {
		front := r.List[:min(depths, len(r.List))]
		if len(front) == depths {
			threshold += front[depths-1].Score
		}
		for _, x := range front {
			met[x.Id] = oracleSum(l, x.Id)
		}
	}
	for _, sum := range met {
		if sum > threshold {
			k--
		}
	}
	return k <= 0
}

func longestOf(l []impl.Ranking) int {
	longest := 0
	for _, r := range l {
		longest = max(longest, len(r.List))
	}
	return longest
}

func oracleDepths(l []impl.Ranking, k int) int {
	if k == 0 {
		return 0
	}
	for depths := range longestOf(l) {
		if depths > 0 && stopsAt(l, k, depths) {
			return depths
		}
	}
	return longestOf(l)
}

func wantSum(t *testing.T, l []impl.Ranking, id int, want int) {
	t.Helper()
	if got, ok := impl.SumOf(l, id); !ok || got != want {
		t.Errorf("SumOf %d in %v is %d %v, not %d", id, l, got, ok, want)
	}
}

func wantNoSum(t *testing.T, what string, l []impl.Ranking, id int) {
	t.Helper()
	if got, ok := impl.SumOf(l, id); ok || got != 0 {
		t.Errorf("%s: SumOf %d is %d %v", what, id, got, ok)
	}
}

// wantBestOf asks for the best k, and answers how many depths were looked at for them.
func wantBestOf(t *testing.T, l []impl.Ranking, k int, want []impl.Scored) int {
	t.Helper()
	if got, ok := impl.AllBest(l, k); !ok || !slices.Equal(got, want) {
		t.Errorf("AllBest %d of %v is %v %v, not %v", k, l, got, ok, want)
	}
	got, depths, ok := impl.TopBest(l, k)
	if !ok || !slices.Equal(got, want) {
		t.Errorf("TopBest %d of %v is %v %v, not %v", k, l, got, ok, want)
	}
	return depths
}

// wantBest asks for what sums taken one by one tell, found at so many depths.
func wantBest(t *testing.T, l []impl.Ranking, k int, depths int) {
	t.Helper()
	if got := wantBestOf(t, l, k, oracleBest(l, k)); got != depths {
		t.Errorf("TopBest %d of %v looks at %d depths, not %d", k, l, got, depths)
	}
}

func wantEachBest(t *testing.T, l []impl.Ranking) {
	t.Helper()
	if !impl.GoodRankings(l) {
		t.Errorf("not good: %v", l)
	}
	for _, k := range []int{0, 1, 2, 3, 4, 7, 30, 59, 60} {
		wantBest(t, l, k, oracleDepths(l, k))
	}
	for _, k := range []int{-1, 61} {
		wantNoBest(t, "so many", l, k)
	}
}

func wantNoBest(t *testing.T, what string, l []impl.Ranking, k int) {
	t.Helper()
	if got, ok := impl.AllBest(l, k); ok || len(got) != 0 {
		t.Errorf("%s: AllBest %d is %v %v", what, k, got, ok)
	}
	if got, depths, ok := impl.TopBest(l, k); ok || depths != 0 || len(got) != 0 {
		t.Errorf("%s: TopBest %d is %v %d %v", what, k, got, depths, ok)
	}
}

// wantNoRankings asks each function of the chapter that takes rankings for its answer where they are not good.
func wantNoRankings(t *testing.T, what string, bad []impl.Ranking) {
	t.Helper()
	if impl.GoodRankings(bad) {
		t.Errorf("%s: GoodRankings", what)
	}
	ids := []int{least, -1, 0, 1, 2, 7, 1000, 1001, greatest}
	for _, r := range bad[:min(len(bad), 7)] {
		for _, x := range r.List[:min(len(r.List), 7)] {
			ids = append(ids, x.Id)
		}
	}
	for _, id := range ids {
		wantNoSum(t, what, bad, id)
	}
	for _, k := range []int{-1, 0, 1, 2, 60, 61} {
		wantNoBest(t, what, bad, k)
	}
}

func (p pages) without(word string) int {
	return len(p) - len(p.list(word))
}

func (p pages) score(words []string, text int) int {
	sum := 0
	for _, word := range words {
		sum += p.times(text, word) * (p.without(word) + 1)
	}
	return sum
}

func (p pages) rankings(words []string) []impl.Ranking {
	var l []impl.Ranking
	for _, word := range words {
		var list []impl.Scored
		for k := range p {
			if score := p.score([]string{word}, k); score > 0 {
				list = append(list, impl.Scored{Id: k, Score: score})
			}
		}
		l = append(l, impl.Ranking{List: inOrder(list)})
	}
	return l
}

func (p pages) best(words []string, k int) []impl.Scored {
	var all []impl.Scored
	for text := range p {
		if score := p.score(words, text); score > 0 {
			all = append(all, impl.Scored{Id: text, Score: score})
		}
	}
	return inOrder(all)[:min(k, len(all))]
}

func sameRankings(a []impl.Ranking, b []impl.Ranking) bool {
	return slices.EqualFunc(a, b, func(x, y impl.Ranking) bool { return slices.Equal(x.List, y.List) })
}

// wantScores asks for scores, rankings and the best texts, by what the texts themselves tell.
func wantScores(t *testing.T, p pages, w impl.Words, words ...string) {
	t.Helper()
	for k := range p {
		if got, ok := impl.ScoreOf(w, words, k); !ok || got != p.score(words, k) {
			t.Errorf("ScoreOf %q in text %d of %q is %d %v, not %d", words, k, p, got, ok, p.score(words, k))
		}
	}
	for _, k := range []int{least, -1, len(p), len(p) + 1, 40, greatest} {
		if got, ok := impl.ScoreOf(w, words, k); ok || got != 0 {
			t.Errorf("ScoreOf %q in text %d of %d is %d %v", words, k, len(p), got, ok)
		}
	}
	l, ok := impl.RankingsFor(w, words)
	if !ok || !sameRankings(l, p.rankings(words)) || !impl.GoodRankings(l) {
		t.Errorf("RankingsFor %q in %q is %v %v, not %v", words, p, l, ok, p.rankings(words))
	}
	for _, k := range []int{0, 1, 2, len(p), 60} {
		got, ok := impl.RankTexts(w, words, k)
		if !ok || !slices.Equal(got, p.best(words, k)) {
			t.Errorf("RankTexts %d of %q in %q is %v %v, not %v", k, words, p, got, ok, p.best(words, k))
		}
		wantBestOf(t, l, k, got)
	}
	for _, k := range []int{least, -1, 61, greatest} {
		if got, ok := impl.RankTexts(w, words, k); ok || len(got) != 0 {
			t.Errorf("RankTexts %d of %q is %v %v", k, words, got, ok)
		}
	}
}

func wantNoScores(t *testing.T, what string, w impl.Words, words []string) {
	t.Helper()
	for _, text := range []int{-1, 0, 1, 2, w.Texts - 1, w.Texts} {
		if got, ok := impl.ScoreOf(w, words, text); ok || got != 0 {
			t.Errorf("%s: ScoreOf in text %d is %d %v", what, text, got, ok)
		}
	}
	if got, ok := impl.RankingsFor(w, words); ok || len(got) != 0 {
		t.Errorf("%s: RankingsFor is %v %v", what, got, ok)
	}
	for _, k := range []int{-1, 0, 1, 2, 60, 61} {
		if got, ok := impl.RankTexts(w, words, k); ok || len(got) != 0 {
			t.Errorf("%s: RankTexts %d is %v %v", what, k, got, ok)
		}
	}
}

// ranking tells a list of at most so many ids out of a pool, with scores of which many are alike where they are few.
func (d *dice) ranking(most int, pool int, scores int) impl.Ranking {
	sums := map[int]int{}
	for range most {
		sums[1000-d.below(pool)] = 1 + d.below(scores)
	}
	var r impl.Ranking
	for id, score := range sums {
		r.List = append(r.List, impl.Scored{Id: id, Score: score})
	}
	inOrder(r.List)
	return r
}

func (d *dice) rankings() []impl.Ranking {
	var l []impl.Ranking
	pool := []int{3, 8, 80, 1001}[d.below(4)]
	scores := []int{1, 3, 20, 1000000}[d.below(4)]
	for range d.below(6) {
		l = append(l, d.ranking([]int{0, 2, 10, 60, d.below(61)}[d.below(5)], pool, scores))
	}
	return l
}
