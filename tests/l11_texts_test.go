package tests

import (
	"slices"
	"strings"
	"testing"

	"loop.example/g00274/impl"
)

// sixPages: cat stands in many, zoo in one, each other word in a few.
func sixPages() pages {
	return pages{"The cat, the cat, the mat", "a Cat", "", "zoo cat dog Zoo", "dog DOG dog", "cat mat mat a"}
}

func TestPromise11ScoresOfTexts(t *testing.T) {
	w := wantIndex(t, sixPages())
	// Of six texts four have cat, one has zoo, two have dog.
	for k, want := range []int{6, 3, 0, 20, 15, 3} {
		if got, ok := impl.ScoreOf(w, []string{"cat", "zoo", "dog"}, k); !ok || got != want {
			t.Errorf("ScoreOf in text %d is %d %v, not %d", k, got, ok, want)
		}
	}
	l, ok := impl.RankingsFor(w, []string{"dog", "cat", "nowhere", "zoo"})
	want := []impl.Ranking{rank(4, 15, 3, 5), rank(0, 6, 1, 3, 3, 3, 5, 3), {}, rank(3, 12)}
	if !ok || !sameRankings(l, want) {
		t.Errorf("RankingsFor is %v %v, not %v", l, ok, want)
	}
	best := scored(3, 20, 4, 15, 0, 6, 1, 3, 5, 3)
	for k := range 61 {
		if got, ok := impl.RankTexts(w, []string{"cat", "zoo", "dog"}, k); !ok || !slices.Equal(got, best[:min(k, 5)]) {
			t.Errorf("RankTexts %d is %v %v", k, got, ok)
		}
	}
}

func TestPromise11ScoresByWords(t *testing.T) {
	p := sixPages()
	w := wantIndex(t, p)
	for _, words := range [][]string{
		nil,
		{},
		{"cat"},
		{"zoo"},
		{"nowhere"},
		{"nowhere", "none"},
		{"cat", "dog"},
		{"dog", "cat"},
		{"nowhere", "mat"},
		{"mat", "nowhere"},
		{"the", "cat", "mat", "dog", "a"},
		{"a", "dog", "mat", "cat", "the"},
		{"the", "zoo", "nowhere", "mat", "0"},
	} {
		wantScores(t, p, w, words...)
	}
	wantScores(t, nil, impl.Words{})
	wantScores(t, nil, impl.Words{}, "cat")
	wantScores(t, pages{"", ""}, impl.Words{Texts: 2})
	wantScores(t, pages{"", ""}, impl.Words{Texts: 2}, "cat", "dog")
}

// No words make no lists, and each text has the score 0.
func TestPromise11ScoresOfNoWords(t *testing.T) {
	w := wantIndex(t, sixPages())
	for _, words := range [][]string{nil, {}} {
		if l, ok := impl.RankingsFor(w, words); !ok || len(l) != 0 {
			t.Errorf("RankingsFor no words is %v %v", l, ok)
		}
		if l, ok := impl.RankTexts(w, words, 60); !ok || len(l) != 0 {
			t.Errorf("RankTexts of no words is %v %v", l, ok)
		}
		if sum, ok := impl.ScoreOf(w, words, 5); !ok || sum != 0 {
			t.Errorf("ScoreOf no words is %v %v", sum, ok)
		}
	}
}

// A word that all texts have counts once for each time, one that a single text has the most.
func TestPromise11ScoresOfMostTexts(t *testing.T) {
	most := slices.Repeat(pages{"cat"}, 40)
	most[39] = strings.Repeat("a ", 100)
	most[7] = strings.Repeat("cat ", 50)
	w := wantIndex(t, most)
	wantScores(t, most, w, "cat", "a")
	if got, ok := impl.ScoreOf(w, []string{"a"}, 39); !ok || got != 4000 {
		t.Errorf("ScoreOf is %d %v", got, ok)
	}
	most[39] += "cat"
	most[39] = most[39][3:]
	w = wantIndex(t, most)
	wantScores(t, most, w, "cat")
	if got, ok := impl.ScoreOf(w, []string{"cat"}, 7); !ok || got != 50 {
		t.Errorf("ScoreOf is %d %v", got, ok)
	}
}

func TestPromise11ScoresByMostWords(t *testing.T) {
	words := manyUnlike(6)
	p := pages{strings.Join(words, " "), strings.Join(words[2:], " "), "w1005 w1005", "", "w1000"}
	w := wantIndex(t, p)
	wantScores(t, p, w, words[:5]...)
	wantScores(t, p, w, words[1:]...)
	wantScores(t, p, w, "none", "nowhere", "neither", "zz", "w1005")
	for _, many := range [][]string{words, manyUnlike(7), {"a", "b", "c", "d", "e", "f"}, manyUnlike(100000)} {
		wantNoScores(t, "a word too many", w, many)
		wantNoScores(t, "a word too many", impl.Words{}, many)
	}
}

func TestPromise11ScoresOfTheSameWordTwice(t *testing.T) {
	w := wantIndex(t, sixPages())
	for _, words := range [][]string{
		{"cat", "cat"},
		{"nowhere", "nowhere"},
		{"cat", "dog", "cat"},
		{"dog", "cat", "cat"},
		{"cat", "dog", "mat", "the", "cat"},
		{"cat", "dog", "mat", "the", "the"},
		{"cat", "cat", "cat", "cat", "cat"},
	} {
		wantNoScores(t, "a word twice", w, words)
		wantNoScores(t, "a word twice", impl.Words{}, words)
	}
}

func TestPromise11ScoresByWhatIsNoWord(t *testing.T) {
	w := wantIndex(t, sixPages())
	for _, none := range noWords() {
		for _, words := range [][]string{{none}, {"cat", none}, {none, "cat"}, {"nowhere", none, "the"}, {"a", "cat", "dog", "mat", none}} {
			wantNoScores(t, none, w, words)
			wantNoScores(t, none, impl.Words{}, words)
		}
	}
}

func TestPromise11ScoresOfATextThatIsNone(t *testing.T) {
	w := wantIndex(t, sixPages())
	for _, text := range []int{least, -6, -1, 6, 7, 39, 40, 1000, 1 << 32, greatest} {
		for _, words := range [][]string{nil, {"cat"}, {"nowhere"}} {
			if got, ok := impl.ScoreOf(w, words, text); ok || got != 0 {
				t.Errorf("ScoreOf %q in text %d is %d %v", words, text, got, ok)
			}
			if got, ok := impl.ScoreOf(impl.Words{}, words, 0); ok || got != 0 {
				t.Errorf("ScoreOf %q in no text is %d %v", words, got, ok)
			}
		}
	}
}

func TestPromise11ScoresOfWordsThatAreNotGood(t *testing.T) {
	for rule, w := range brokenWords() {
		for _, words := range [][]string{nil, {"a"}, {"cat", "x9"}, {"nowhere"}, {""}} {
			wantNoScores(t, rule, w, words)
		}
	}
}

// unlikeOf tells at most so many words, no two alike, some of which stand nowhere.
func (d *dice) unlikeOf(p pages, most int) []string {
	from := append(p.unlike(), "nowhere", "zz")
	var words []string
	for range d.below(most + 1) {
		if word := from[d.below(len(from))]; !slices.Contains(words, word) {
			words = append(words, word)
		}
	}
	return words
}

func TestPromise11ScoresOfManyTexts(t *testing.T) {
	d := &dice{state: 115}
	for range 150 {
		p := d.pages(12)
		w := wantIndex(t, p)
		for range 4 {
			wantScores(t, p, w, d.unlikeOf(p, 5)...)
		}
	}
}

// What is told of rankings is told of scores: they are sums in the lists of words.
func TestPromise11ScoresAreSums(t *testing.T) {
	d := &dice{state: 116}
	for range 150 {
		p := d.pages(12)
		w, _ := impl.IndexOf(p)
		words := d.unlikeOf(p, 5)
		l, _ := impl.RankingsFor(w, words)
		for k := range p {
			got, ok := impl.ScoreOf(w, words, k)
			if sum, sumOk := impl.SumOf(l, k); !ok || !sumOk || got != sum {
				t.Errorf("ScoreOf %q in text %d is %d %v, its sum %d %v", words, k, got, ok, sum, sumOk)
			}
		}
	}
}
