package tests

import (
	"fmt"
	"slices"
	"strings"
	"testing"

	"loop.example/g00274/impl"
)

// wantNoWords asks each function of the chapter that takes words for its answer where they are not good.
func wantNoWords(t *testing.T, what string, bad impl.Words) {
	t.Helper()
	if impl.GoodWords(bad) {
		t.Errorf("%s: GoodWords", what)
	}
	asked := []string{"a", "cat", "nowhere", "", "A"}
	if len(bad.Entries) > 0 {
		asked = append(asked, bad.Entries[0].Word, bad.Entries[len(bad.Entries)-1].Word)
	}
	for _, word := range asked {
		wantNoPostings(t, what, bad, word)
		wantNoTexts(t, what, bad, []string{word})
		wantNoTexts(t, what, bad, []string{"a", word})
	}
	wantNoTexts(t, what, bad, nil)
}

func TestPromise19AnyTextAsWords(t *testing.T) {
	for c := range 256 {
		one := string([]byte{byte(c)})
		for _, many := range []int{1, 2, 20, 21, 199, 200, 201, 1000000} {
			s := strings.Repeat(one, many)
			var want []string
			if many <= 200 {
				want = oracleWords(s)
			}
			if got, ok := impl.WordsIn(s); ok != (many <= 200) || !slices.Equal(got, want) {
				t.Errorf("WordsIn of %d bytes %q is %q %v", many, one, got, ok)
			}
			if many > 200 {
				wantNoIndex(t, "a long text", []string{s})
				wantNoIndex(t, "a long text among others", []string{"a", s, "b"})
			} else {
				wantIndex(t, pages{s, one, s})
			}
		}
	}
	wantNoIndex(t, "a million texts", make([]string, 1000000))
}

func TestPromise19AnyTextAsAWord(t *testing.T) {
	p := pages{"The cat", "", "cat 0"}
	for c := range 256 {
		for _, many := range []int{1, 2, 20, 21, 1000000} {
			word := strings.Repeat(string([]byte{byte(c)}), many)
			for _, w := range []impl.Words{{}, p.words()} {
				if many <= 20 && wholeWord.MatchString(word) {
					wantPostings(t, p[:w.Texts], w, word)
					wantTexts(t, p[:w.Texts], w, word, "cat")
					continue
				}
				wantNoPostings(t, "no word", w, word)
				wantNoTexts(t, "no word", w, []string{word})
				wantNoTexts(t, "no word", w, []string{"cat", word})
			}
		}
	}
}

func TestPromise19AnyPostings(t *testing.T) {
	numbers := []int{least, least + 1, -1000, -2, -1, 0, 1, 2, 99, 100, 101, 127, 128, 9999, 10000, 10001, 16383, 16384, 1 << 32, greatest - 1, greatest}
	for _, first := range numbers {
		for _, times := range numbers {
			for _, l := range [][]impl.Posting{listFrom(first, times), listFrom(5, 1, first, times), listFrom(first, times, 6, 1), listFrom(first, 1, times, 1)} {
				want, wantOk := oraclePack(l)
				if got, ok := impl.PackPostings(l); ok != wantOk || got != want {
					t.Errorf("PackPostings(%v) is %x %v, not %x %v", l, got, ok, want, wantOk)
				}
			}
		}
	}
}

func TestPromise19AnyBytesAsPostings(t *testing.T) {
	for c := range 256 {
		one := string([]byte{byte(c)})
		for _, many := range []int{1, 2, 3, 9, 10, 11, 20, 398, 399, 400, 401, 402} {
			wantUnpacked(t, strings.Repeat(one, many))
			wantUnpacked(t, strings.Repeat(one, many)+"\x01")
			wantUnpacked(t, "\x00\x01"+strings.Repeat(one, many))
		}
		wantNotUnpacked(t, "a million bytes", strings.Repeat(one, 1000000))
		wantNotUnpacked(t, "a million bytes and a last one", strings.Repeat(one, 1000000)+"\x01")
		wantNotUnpacked(t, "a million pairs", strings.Repeat(one+"\x01", 1000000))
	}
	d := &dice{state: 107}
	for range 20000 {
		var s []byte
		for range d.below(12) {
			s = append(s, byte(d.below(256)>>(d.below(8))))
		}
		wantUnpacked(t, string(s))
	}
}

// wordAnswer holds all lists that a function of the chapter answers, and tells the rest.
type wordAnswer struct {
	words   impl.Words
	texts   []string
	numbers []int
	list    []impl.Posting
	told    string
}

func (a wordAnswer) tell() string {
	return fmt.Sprintf("%s %q %v %v %s", tellWords(a.words), a.texts, a.numbers, a.list, a.told)
}

func listPiece(l []impl.Posting) piece {
	return pieceOf(l, impl.Posting{Text: 77, Times: 78}, func(p impl.Posting) any { return p })
}

func wordsPieces(w impl.Words) []piece {
	all := []piece{pieceOf(w.Entries, impl.Entry{Word: "spoilt"}, func(e impl.Entry) any { return []any{e.Word, len(e.List)} })}
	for _, e := range w.Entries[:cap(w.Entries)] {
		all = append(all, listPiece(e.List))
	}
	return all
}

func (a wordAnswer) pieces() []piece {
	return append(wordsPieces(a.words), textsPiece(a.texts), pieceOf(a.numbers, 77, func(n int) any { return n }), listPiece(a.list))
}

func wantEmptyBehind[E comparable](t *testing.T, what string, l []E) {
	t.Helper()
	var zero E
	for _, x := range l[len(l):cap(l)] {
		if x != zero {
			t.Errorf("%s: behind the answer lies %v", what, x)
		}
	}
}

func (a wordAnswer) wantNothingBehind(t *testing.T, what string) {
	t.Helper()
	wantEmptyBehind(t, what, a.texts)
	wantEmptyBehind(t, what, a.numbers)
	wantEmptyBehind(t, what, a.list)
	for _, e := range a.words.Entries {
		wantEmptyBehind(t, what, e.List)
	}
	for _, e := range a.words.Entries[len(a.words.Entries):cap(a.words.Entries)] {
		if e.Word != "" || e.List != nil {
			t.Errorf("%s: behind the entries lies %v", what, e)
		}
	}
}

// wordCalls are all calls of the chapter; texts are taken as words, too.
func wordCalls() map[string]func(impl.Words, []string, []impl.Posting) wordAnswer {
	calls := map[string]func(impl.Words, []string, []impl.Posting) wordAnswer{
		"WordsIn": func(_ impl.Words, texts []string, _ []impl.Posting) wordAnswer {
			words, ok := impl.WordsIn(strings.Join(texts, " "))
			return wordAnswer{texts: words, told: fmt.Sprint(ok)}
		},
		"IndexOf": func(_ impl.Words, texts []string, _ []impl.Posting) wordAnswer {
			w, ok := impl.IndexOf(texts)
			return wordAnswer{words: w, told: fmt.Sprint(ok)}
		},
		"GoodWords": func(w impl.Words, _ []string, _ []impl.Posting) wordAnswer {
			return wordAnswer{told: fmt.Sprint(impl.GoodWords(w))}
		},
		"PostingsOf": func(w impl.Words, texts []string, _ []impl.Posting) wordAnswer {
			l, ok := impl.PostingsOf(w, strings.Join(texts, ""))
			return wordAnswer{list: l, told: fmt.Sprint(ok)}
		},
		"PackPostings": func(_ impl.Words, _ []string, l []impl.Posting) wordAnswer {
			s, ok := impl.PackPostings(l)
			return wordAnswer{told: fmt.Sprintf("%x %v", s, ok)}
		},
		"UnpackPostings": func(_ impl.Words, _ []string, l []impl.Posting) wordAnswer {
			s, _ := oraclePack(l)
			made, ok := impl.UnpackPostings(s)
			return wordAnswer{list: made, told: fmt.Sprint(ok)}
		},
	}
	for name, call := range textCalls() {
		calls[name] = func(w impl.Words, texts []string, _ []impl.Posting) wordAnswer {
			numbers, ok := call(w, texts)
			return wordAnswer{numbers: numbers, told: fmt.Sprint(ok)}
		}
	}
	return calls
}

func listBehind(l []impl.Posting) []impl.Posting {
	return slices.Concat(l, listFrom(3, 1, -5, 1000))[:len(l)]
}

func textsBehind(l []string) []string {
	return slices.Concat(l, []string{"zz", "Behind!"})[:len(l)]
}

// wordsBehind are words in new memory, in which more lies behind the length of each list.
func wordsBehind(w impl.Words) impl.Words {
	made := impl.Words{Texts: w.Texts}
	for _, e := range w.Entries {
		made.Entries = append(made.Entries, impl.Entry{Word: e.Word, List: listBehind(e.List)})
	}
	made.Entries = append(made.Entries, impl.Entry{Word: "zz", List: listFrom(0, 1)}, impl.Entry{Word: "Behind!"})[:len(w.Entries)]
	return made
}

// keptWords are good words, and some that are not, each small enough to be told often.
func keptWords() map[string]impl.Words {
	all := brokenWords()
	for what, w := range all {
		if len(w.Entries) > 300 || len(w.Entries) > 1 && len(w.Entries[1].List) > 300 {
			delete(all, what)
		}
	}
	all["none"] = impl.Words{}
	all["texts alone"] = impl.Words{Texts: 4}
	all["three"] = threeWords()
	all["forty texts"] = slices.Repeat(pages{"cat a", "x9 a a", "", "a"}, 10).words()
	return all
}

func askedTexts() [][]string {
	return [][]string{nil, {"a"}, {"cat"}, {"nowhere"}, {"a", "cat"}, {"x9", "x9", "a"}, {"A cat"}, {""}, {"The cat", "a", ""}, {strings.Repeat("a ", 101)}, manyUnlike(20), manyUnlike(21), manyUnlike(41)}
}

func keptLists() [][]impl.Posting {
	return [][]impl.Posting{nil, listFrom(0, 1), listFrom(3, 100, 200, 7, 10000, 1), listFrom(7, 1, 7, 1), listFrom(0, 0), manyPostings(200, 3), manyPostings(201, 0)}
}

func TestPromise19WordsLeaveArgumentsAsTheyWere(t *testing.T) {
	for what, w := range keptWords() {
		for k, texts := range askedTexts() {
			list := keptLists()[k%len(keptLists())]
			arg, by, l := wordsBehind(w), textsBehind(texts), listBehind(list)
			pieces := append(wordsPieces(arg), textsPiece(by), listPiece(l))
			before := tellPieces(pieces)
			for name, call := range wordCalls() {
				got, want := call(arg, by, l), call(w, texts, list)
				if got.tell() != want.tell() {
					t.Errorf("%s: %s reads what lies behind a length: %s, not %s", what, name, got.tell(), want.tell())
				}
				got.wantNothingBehind(t, what+": "+name)
				for _, p := range got.pieces() {
					p.spoil()
				}
			}
			if arg.Texts != w.Texts || !slices.Equal(tellPieces(pieces), before) {
				t.Errorf("%s: an argument is written into, or changed with an answer, at %q", what, texts)
			}
		}
	}
}

func TestPromise19WordAnswersShareNothing(t *testing.T) {
	for _, w := range []impl.Words{{}, threeWords(), pages{"a a cat", "a", "cat b x9"}.words()} {
		for k, texts := range askedTexts() {
			for name, call := range wordCalls() {
				arg, by, l := wordsBehind(w), textsBehind(texts), listBehind(keptLists()[k%len(keptLists())])
				first, second := call(arg, by, l), call(arg, by, l)
				wantApart(t, fmt.Sprintf("%s of %q", name, texts), slices.Concat(first.pieces(), second.pieces(), wordsPieces(arg), []piece{textsPiece(by), listPiece(l)}))
			}
		}
	}
}

// Lists that could grow into one another share memory, too.
func TestPromise19WordAnswersGrowAlone(t *testing.T) {
	w, _ := impl.IndexOf([]string{"a b", "a b c", "c a"})
	before := tellWords(w)
	for _, e := range w.Entries {
		_ = append(e.List, impl.Posting{Text: 77, Times: 78})
	}
	_ = append(w.Entries, impl.Entry{Word: "spoilt"})
	if tellWords(w) != before {
		t.Errorf("the lists of one answer share memory: %v", w)
	}
}

// Lists that share memory in an argument, or an argument given twice, share none with an answer.
func TestPromise19WordsOfSharedMemory(t *testing.T) {
	list := listFrom(0, 1, 1, 2)
	w := impl.Words{Texts: 2, Entries: []impl.Entry{{Word: "a", List: list}, {Word: "b", List: list}}}
	first, _ := impl.PostingsOf(w, "a")
	second, _ := impl.PostingsOf(w, "b")
	wantApart(t, "PostingsOf", []piece{listPiece(first), listPiece(second), listPiece(list)})
}

// An answer stays as it was, whatever is done to the arguments later.
func TestPromise19WordAnswersOfLaterChangedArguments(t *testing.T) {
	for k, texts := range askedTexts() {
		for name, call := range wordCalls() {
			arg, by, l := threeWords(), slices.Clone(texts), slices.Clone(keptLists()[k%len(keptLists())])
			got := call(arg, by, l)
			before := got.tell()
			for _, p := range append(wordsPieces(arg), textsPiece(by), listPiece(l)) {
				p.spoil()
			}
			if again := call(threeWords(), texts, keptLists()[k%len(keptLists())]); got.tell() != before || again.tell() != before {
				t.Errorf("%s of %q changed with an argument: %s, not %s", name, texts, got.tell(), before)
			}
		}
	}
}

// Nothing is kept from call to call, and no order of a map is to be seen.
func TestPromise19WordsAnswerTheSameAgain(t *testing.T) {
	d := &dice{state: 108}
	for range 60 {
		p := d.pages(12)
		first := tellWords(wantIndex(t, p))
		impl.IndexOf(d.pages(12))
		impl.IndexOf(append(d.pages(3), strings.Repeat("a ", 101)))
		for range 5 {
			if w, ok := impl.IndexOf(p); !ok || tellWords(w) != first {
				t.Errorf("IndexOf(%q) is %v %v, not %s", p, w, ok, first)
			}
		}
	}
}
