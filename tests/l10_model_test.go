package tests

import (
	"encoding/binary"
	"fmt"
	"regexp"
	"slices"
	"strconv"
	"strings"
	"testing"

	"loop.example/g00274/impl"
)

var wordStretch = regexp.MustCompile(`[A-Za-z0-9]{1,20}`)
var wholeWord = regexp.MustCompile(`^[a-z0-9]{1,20}$`)

// oracleWords takes a text of any length.
func oracleWords(s string) []string {
	var words []string
	for _, stretch := range wordStretch.FindAllString(s, -1) {
		words = append(words, strings.ToLower(stretch))
	}
	return words
}

// pages are texts themselves: what words tell of them is asked of each anew.
type pages []string

func (p pages) times(k int, word string) int {
	many := 0
	for _, own := range oracleWords(p[k]) {
		if own == word {
			many++
		}
	}
	return many
}

func (p pages) unlike() []string {
	var all []string
	for _, text := range p {
		all = append(all, oracleWords(text)...)
	}
	slices.Sort(all)
	return slices.Compact(all)
}

func (p pages) list(word string) []impl.Posting {
	var list []impl.Posting
	for k := range p {
		if many := p.times(k, word); many > 0 {
			list = append(list, impl.Posting{Text: k, Times: many})
		}
	}
	return list
}

func (p pages) words() impl.Words {
	w := impl.Words{Texts: len(p)}
	for _, word := range p.unlike() {
		w.Entries = append(w.Entries, impl.Entry{Word: word, List: p.list(word)})
	}
	return w
}

// having tells the texts of which so many of the words stand there as is meant.
func (p pages) having(words []string, meant func(many int) bool) []int {
	var texts []int
	for k := range p {
		many := 0
		for _, word := range words {
			if p.times(k, word) > 0 {
				many++
			}
		}
		if meant(many) {
			texts = append(texts, k)
		}
	}
	return texts
}

func oracleGoodList(l []impl.Posting, texts int) bool {
	for k, p := range l {
		if p.Text < 0 || p.Text > texts-1 || p.Times < 1 || p.Times > 100 {
			return false
		}
		for _, other := range l[:k] {
			if other.Text >= p.Text {
				return false
			}
		}
	}
	return true
}

func oracleGoodWords(w impl.Words) bool {
	if w.Texts < 0 || w.Texts > 40 || len(w.Entries) > 200 {
		return false
	}
	for k, e := range w.Entries {
		if !wholeWord.MatchString(e.Word) || len(e.List) < 1 || !oracleGoodList(e.List, w.Texts) {
			return false
		}
		for _, other := range w.Entries[:k] {
			if strings.Compare(other.Word, e.Word) >= 0 {
				return false
			}
		}
	}
	return true
}

func oraclePack(l []impl.Posting) (string, bool) {
	if len(l) > 200 || !oracleGoodList(l, 10001) {
		return "", false
	}
	var out []byte
	for k, p := range l {
		between := p.Text
		if k > 0 {
			between = p.Text - l[k-1].Text - 1
		}
		out = binary.AppendUvarint(out, uint64(between))
		out = binary.AppendUvarint(out, uint64(p.Times))
	}
	return string(out), true
}

// oracleUnpack reads as loosely as can be: what is told so must have just these bytes.
func oracleUnpack(s string) ([]impl.Posting, bool) {
	var numbers []int
	for rest := []byte(s); len(rest) > 0; {
		n, many := binary.Uvarint(rest)
		if many <= 0 || n > 1000000 || len(numbers) > 1000 {
			return nil, false
		}
		numbers = append(numbers, int(n))
		rest = rest[many:]
	}
	var l []impl.Posting
	for k := 0; k+1 < len(numbers); k += 2 {
		text := numbers[k]
		if k > 0 {
			text += l[len(l)-1].Text + 1
		}
		l = append(l, impl.Posting{Text: text, Times: numbers[k+1]})
	}
	if packed, ok := oraclePack(l); !ok || packed != s {
		return nil, false
	}
	return l, true
}

func sameEntry(a impl.Entry, b impl.Entry) bool {
	return a.Word == b.Word && slices.Equal(a.List, b.List)
}

func sameWords(a impl.Words, b impl.Words) bool {
	return a.Texts == b.Texts && slices.EqualFunc(a.Entries, b.Entries, sameEntry)
}

func wantWordsIn(t *testing.T, s string, want ...string) {
	t.Helper()
	if got, ok := impl.WordsIn(s); !ok || !slices.Equal(got, want) {
		t.Errorf("WordsIn(%q) is %q %v, not %q", s, got, ok, want)
	}
}

// wantIndex asks IndexOf for what the texts themselves tell, and answers it.
func wantIndex(t *testing.T, p pages) impl.Words {
	t.Helper()
	w, ok := impl.IndexOf(p)
	if !ok || !sameWords(w, p.words()) {
		t.Errorf("IndexOf(%q) is %v %v, not %v", p, w, ok, p.words())
	}
	if !impl.GoodWords(w) || !oracleGoodWords(w) {
		t.Errorf("IndexOf(%q) is not good: %v", p, w)
	}
	return w
}

func wantNoIndex(t *testing.T, what string, texts []string) {
	t.Helper()
	if w, ok := impl.IndexOf(texts); ok || w.Texts != 0 || len(w.Entries) != 0 {
		t.Errorf("%s: IndexOf is %v %v", what, w, ok)
	}
}

// wantTexts asks for the texts of words, all three ways, by what the texts themselves tell.
func wantTexts(t *testing.T, p pages, w impl.Words, words ...string) {
	t.Helper()
	for name, want := range map[string][]int{
		"WithAll": p.having(words, func(many int) bool { return many == len(words) }),
		"WithAny": p.having(words, func(many int) bool { return many >= 1 }),
		"Without": p.having(words, func(many int) bool { return many < 1 }),
	} {
		if got, ok := textCalls()[name](w, words); !ok || !slices.Equal(got, want) {
			t.Errorf("%s of %q in %q is %v %v, not %v", name, words, p, got, ok, want)
		}
	}
}

func textCalls() map[string]func(impl.Words, []string) ([]int, bool) {
	return map[string]func(impl.Words, []string) ([]int, bool){
		"WithAll": impl.WithAll,
		"WithAny": impl.WithAny,
		"Without": impl.Without,
	}
}

func wantNoTexts(t *testing.T, what string, w impl.Words, words []string) {
	t.Helper()
	for name, call := range textCalls() {
		if got, ok := call(w, words); ok || len(got) != 0 {
			t.Errorf("%s: %s is %v %v", what, name, got, ok)
		}
	}
}

func wantPostings(t *testing.T, p pages, w impl.Words, word string) {
	t.Helper()
	if got, ok := impl.PostingsOf(w, word); !ok || !slices.Equal(got, p.list(word)) {
		t.Errorf("PostingsOf %q in %q is %v %v, not %v", word, p, got, ok, p.list(word))
	}
}

func wantNoPostings(t *testing.T, what string, w impl.Words, word string) {
	t.Helper()
	if got, ok := impl.PostingsOf(w, word); ok || len(got) != 0 {
		t.Errorf("%s: PostingsOf is %v %v", what, got, ok)
	}
}

// wantPacked asks for a list's bytes, and for the list of these.
func wantPacked(t *testing.T, l []impl.Posting, want string) {
	t.Helper()
	if got, ok := impl.PackPostings(l); !ok || got != want {
		t.Errorf("PackPostings(%v) is %x %v, not %x", l, got, ok, want)
	}
	if got, ok := impl.UnpackPostings(want); !ok || !slices.Equal(got, l) {
		t.Errorf("UnpackPostings(%x) is %v %v, not %v", want, got, ok, l)
	}
}

func wantNotPacked(t *testing.T, what string, l []impl.Posting) {
	t.Helper()
	if got, ok := impl.PackPostings(l); ok || got != "" {
		t.Errorf("%s: PackPostings is %x %v", what, got, ok)
	}
}

func wantNotUnpacked(t *testing.T, what string, s string) {
	t.Helper()
	if got, ok := impl.UnpackPostings(s); ok || len(got) != 0 {
		t.Errorf("%s: UnpackPostings is %v %v", what, got, ok)
	}
}

func listFrom(numbers ...int) []impl.Posting {
	var l []impl.Posting
	for k := 0; k+1 < len(numbers); k += 2 {
		l = append(l, impl.Posting{Text: numbers[k], Times: numbers[k+1]})
	}
	return l
}

// manyPostings has that many postings, each with so many texts between it and the one ahead.
func manyPostings(many int, between int) []impl.Posting {
	var l []impl.Posting
	for k := range many {
		l = append(l, impl.Posting{Text: between + k*(between+1), Times: 1 + k%100})
	}
	return l
}

// manyUnlike has that many words, rising.
func manyUnlike(many int) []string {
	var words []string
	for k := range many {
		words = append(words, "w"+strconv.Itoa(1000+k))
	}
	return words
}

// pagesOf lays words out over texts, so many on each.
func pagesOf(words []string, each int) pages {
	var p pages
	for some := range slices.Chunk(words, each) {
		p = append(p, strings.Join(some, " "))
	}
	return p
}

func (d *dice) page() string {
	s := ""
	for range d.below(14) {
		s += []string{"a", "b", "A", "Cat", "cat", "9", strings.Repeat("x", 18+d.below(5)), "dog"}[d.below(8)]
		s += []string{"", " ", ", ", "\x00", "\xff", "é", "\u212a", "-"}[d.below(8)]
	}
	return s[:min(len(s), 200)]
}

func (d *dice) pages(most int) pages {
	var p pages
	for range d.below(most + 1) {
		p = append(p, d.page())
	}
	return p
}

// asked tells words of which some stand there, some may come twice.
func (d *dice) asked(p pages) []string {
	from := append(p.unlike(), "a", "cat", "nowhere", "x")
	var words []string
	for range d.below([]int{2, 4, 21}[d.below(3)]) {
		words = append(words, from[d.below(len(from))])
	}
	return words
}

func (d *dice) postings() []impl.Posting {
	var l []impl.Posting
	text := -1
	for range d.below(9) {
		text += 1 + []int{0, 1, d.below(130), 126 + d.below(4), d.below(1200)}[d.below(5)]
		l = append(l, impl.Posting{Text: text, Times: 1 + d.below(100)})
	}
	return l
}

func tellWords(w impl.Words) string {
	return fmt.Sprintf("%+v", w)
}
