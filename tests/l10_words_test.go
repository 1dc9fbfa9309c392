package tests

import (
	"slices"
	"strings"
	"testing"

	"loop.example/g00274/impl"
)

func TestPromise10Constants(t *testing.T) {
	if impl.MaxTexts != 40 || impl.MaxWords != 200 {
		t.Error(impl.MaxTexts, impl.MaxWords)
	}
}

func TestPromise10WordsInTexts(t *testing.T) {
	wantWordsIn(t, "")
	wantWordsIn(t, " ,.-\n\x00\xff")
	wantWordsIn(t, "a", "a")
	wantWordsIn(t, "A", "a")
	wantWordsIn(t, "cat", "cat")
	wantWordsIn(t, "The cat, the Mat", "the", "cat", "the", "mat")
	wantWordsIn(t, "b a b", "b", "a", "b")
	wantWordsIn(t, "ABCDEFGHIJKLMNOPQRST", "abcdefghijklmnopqrst")
	wantWordsIn(t, "UVWXYZ", "uvwxyz")
	wantWordsIn(t, "a1B2 007", "a1b2", "007")
	wantWordsIn(t, "  cat  ", "cat")
	wantWordsIn(t, "Cat's", "cat", "s")
	wantWordsIn(t, "a_b-c", "a", "b", "c")
	wantWordsIn(t, "caf\u00e9s", "caf", "s")
}

// Letters that stand outside a-z and A-Z are none, also those of which the small form is a-z.
func TestPromise10WordsAreOfPlainBytes(t *testing.T) {
	wantWordsIn(t, "a\u212ab", "a", "b")
	wantWordsIn(t, "\u0130x\u017fy", "x", "y")
	wantWordsIn(t, "\uff21\u0660\u00aa")
}

func TestPromise10WordsAroundEachByte(t *testing.T) {
	for c := range 256 {
		one := string([]byte{byte(c)})
		small := strings.ToLower(one)
		if c >= '0' && c <= '9' || c >= 'a' && c <= 'z' || c >= 'A' && c <= 'Z' {
			wantWordsIn(t, one, small)
			wantWordsIn(t, one+"x", small+"x")
			wantWordsIn(t, "x"+one+"Y", "x"+small+"y")
			wantWordsIn(t, "x"+one, "x"+small)
			continue
		}
		wantWordsIn(t, one)
		wantWordsIn(t, one+"x", "x")
		wantWordsIn(t, "x"+one+"Y", "x", "y")
		wantWordsIn(t, "x"+one, "x")
		wantWordsIn(t, one+one+"x"+one+one+"y"+one+one, "x", "y")
	}
}

func TestPromise10LongStretchesAreCut(t *testing.T) {
	row := "abcdefghijklmnopqrst"
	more := "uvwxyz0123456789abcd"
	wantWordsIn(t, row[:19], row[:19])
	wantWordsIn(t, row, row)
	wantWordsIn(t, row+"u", row, "u")
	wantWordsIn(t, row+more, row, more)
	wantWordsIn(t, row+more+"e", row, more, "e")
	wantWordsIn(t, strings.ToUpper(row+more)+"E", row, more, "e")
	wantWordsIn(t, " "+row+"u "+row+" v"+row+",", row, "u", row, "v"+row[:19], "t")
	wantWordsIn(t, "-"+row+"-u", row, "u")
}

func TestPromise10WordsInTheLongestText(t *testing.T) {
	row := strings.Repeat("x", 20)
	for s, want := range map[string][]string{
		strings.Repeat("x", 200):                                 slices.Repeat([]string{row}, 10),
		strings.Repeat("a ", 100):                                slices.Repeat([]string{"a"}, 100),
		strings.Repeat(" a", 100):                                slices.Repeat([]string{"a"}, 100),
		strings.Repeat(" ", 200):                                 nil,
		strings.Repeat("-", 199) + "Z":                           {"z"},
		"Z" + strings.Repeat("\xff", 199):                        {"z"},
		strings.Repeat(" ", 179) + row + "x":                     {row, "x"},
		strings.Repeat("\u00e9", 90) + row[:10] + "\n12345678\n": {row[:10], "12345678"},
	} {
		if len(s) != 200 {
			t.Fatalf("%q has %d bytes", s, len(s))
		}
		wantWordsIn(t, s, want...)
		for _, longer := range []string{s + " ", " " + s, s + "x", s + "\x00"} {
			if got, ok := impl.WordsIn(longer); ok || len(got) != 0 {
				t.Errorf("WordsIn(%q) is %q %v", longer, got, ok)
			}
		}
	}
}

func TestPromise10WordsOfManyTexts(t *testing.T) {
	d := &dice{state: 101}
	for range 3000 {
		s := d.page()
		wantWordsIn(t, s, oracleWords(s)...)
	}
}

func TestPromise10IndexOfTexts(t *testing.T) {
	got, ok := impl.IndexOf([]string{"The cat, the mat", "a Cat's dog", ""})
	want := impl.Words{Texts: 3, Entries: []impl.Entry{
		{Word: "a", List: listFrom(1, 1)},
		{Word: "cat", List: listFrom(0, 1, 1, 1)},
		{Word: "dog", List: listFrom(1, 1)},
		{Word: "mat", List: listFrom(0, 1)},
		{Word: "s", List: listFrom(1, 1)},
		{Word: "the", List: listFrom(0, 2)},
	}}
	if !ok || !sameWords(got, want) {
		t.Errorf("IndexOf is %v %v", got, ok)
	}
	for _, p := range []pages{
		nil,
		{},
		{""},
		{"", "", ""},
		{" ", "-\x00", "\xff\u00e9"},
		{"a"},
		{"", "a", ""},
		{"A a", "a", "B"},
		{"b", "a", "b a"},
		{"10 9 z Z a 0"},
		{strings.Repeat("x", 41), strings.Repeat("X", 20)},
		{"a a a", "a a", "a", "a a a a"},
	} {
		wantIndex(t, p)
	}
}

// What a text has is not counted again for the next one.
func TestPromise10CountsOfOneTextAlone(t *testing.T) {
	w := wantIndex(t, pages{"a a b", "", "c", "b c c c"})
	for word, want := range map[string][]impl.Posting{"a": listFrom(0, 2), "b": listFrom(0, 1, 3, 1), "c": listFrom(2, 1, 3, 3)} {
		if got, ok := impl.PostingsOf(w, word); !ok || !slices.Equal(got, want) {
			t.Errorf("PostingsOf %q is %v %v", word, got, ok)
		}
	}
}

func TestPromise10IndexOfMostTexts(t *testing.T) {
	for _, text := range []string{"", "cat", "Cat dog cat", strings.Repeat("a", 200)} {
		most := slices.Repeat(pages{text}, 40)
		w := wantIndex(t, most)
		if w.Texts != 40 {
			t.Errorf("there are %d texts", w.Texts)
		}
		wantNoIndex(t, "a text too many", append(most, text))
		wantNoIndex(t, "an empty text too many", append(most, ""))
	}
	long := strings.Repeat("a", 200)
	wantIndex(t, pages{"b", long})
	for _, p := range []pages{{long + "a"}, {"b", long + " "}, {long + "a", "b"}, {long, long + "-", long}} {
		wantNoIndex(t, "a text of 201 bytes", p)
	}
}

func TestPromise10IndexOfMostWords(t *testing.T) {
	most := manyUnlike(201)
	for _, each := range []int{5, 6, 33} {
		p := pagesOf(most[:200], each)
		if w := wantIndex(t, p); len(w.Entries) != 200 {
			t.Errorf("there are %d words", len(w.Entries))
		}
		// More words, of which none is a new one, are not too many.
		again := slices.Clone(p)
		again[len(again)-1] += " " + most[0] + " " + strings.ToUpper(most[7])
		wantIndex(t, again)
		slices.Reverse(again)
		wantIndex(t, again)
		for k := range p {
			more := slices.Clone(p)
			more[k] += " " + most[200]
			if len(more[k]) > 200 {
				continue
			}
			wantNoIndex(t, "a word too many", more)
		}
	}
}

func TestPromise10WordThatStandsAHundredTimes(t *testing.T) {
	for _, text := range []string{strings.Repeat("a ", 100), strings.Repeat("-a", 100), strings.Repeat("A a ", 50), strings.Repeat("a ", 99) + "a"} {
		w := wantIndex(t, pages{"b a", text, "a"})
		if got, ok := impl.PostingsOf(w, "a"); !ok || !slices.Equal(got, listFrom(0, 1, 1, 100, 2, 1)) {
			t.Errorf("PostingsOf is %v %v", got, ok)
		}
	}
}

func TestPromise10IndexOfManyTexts(t *testing.T) {
	d := &dice{state: 102}
	for range 400 {
		p := d.pages(9)
		w := wantIndex(t, p)
		for _, word := range append(p.unlike(), "nowhere", "x", "0") {
			wantPostings(t, p, w, word)
		}
	}
}

func TestPromise10PostingsOfAWord(t *testing.T) {
	p := pages{"The cat, the mat", "a Cat's dog", "", "the " + strings.Repeat("z", 20)}
	w := wantIndex(t, p)
	for _, word := range []string{"the", "cat", "a", "dog", "mat", "s", strings.Repeat("z", 20)} {
		wantPostings(t, p, w, word)
	}
	for _, word := range []string{"0", "b", "ca", "catt", "thf", "z", strings.Repeat("z", 19), strings.Repeat("y", 20)} {
		if got, ok := impl.PostingsOf(w, word); !ok || len(got) != 0 {
			t.Errorf("PostingsOf %q is %v %v", word, got, ok)
		}
	}
	if got, ok := impl.PostingsOf(impl.Words{}, "cat"); !ok || len(got) != 0 {
		t.Errorf("PostingsOf no texts is %v %v", got, ok)
	}
	for _, none := range noWords() {
		wantNoPostings(t, none, w, none)
		wantNoPostings(t, none, impl.Words{}, none)
	}
}

// noWords are texts that stand in no text as a word.
func noWords() []string {
	all := []string{"", "The", "cAt", "caT", "CAT", " cat", "cat ", "ca t", "cat's", "-", "\u00e9", "\u212a", "cat\x00", "\xff", strings.Repeat("z", 21), strings.Repeat("z", 40), "ca\ncat"}
	for c := range 256 {
		if c < '0' || c > '9' && c < 'a' || c > 'z' {
			all = append(all, string([]byte{byte(c)}), string([]byte{'a', byte(c)}), string([]byte{byte(c), '9'}))
		}
	}
	return all
}

func TestPromise10TextsByWords(t *testing.T) {
	p := pages{"The cat, the mat", "a Cat's dog", "", "mat dog cat", "-", "DOG dog"}
	w := wantIndex(t, p)
	for _, words := range [][]string{
		nil,
		{},
		{"cat"},
		{"the"},
		{"nowhere"},
		{"cat", "dog"},
		{"dog", "cat"},
		{"cat", "cat"},
		{"the", "dog"},
		{"mat", "cat", "dog"},
		{"cat", "nowhere"},
		{"nowhere", "cat"},
		{"nowhere", "none"},
		{"cat", "cat", "dog", "dog", "cat"},
		{"nowhere", "nowhere"},
	} {
		wantTexts(t, p, w, words...)
	}
	wantTexts(t, nil, impl.Words{})
	wantTexts(t, nil, impl.Words{}, "cat")
	wantTexts(t, pages{"", ""}, impl.Words{Texts: 2})
	wantTexts(t, pages{"", ""}, impl.Words{Texts: 2}, "cat", "dog")
}

func TestPromise10TextsOfNoWords(t *testing.T) {
	w := wantIndex(t, pages{"a", "", "b a"})
	for name, want := range map[string][]int{"WithAll": {0, 1, 2}, "WithAny": nil, "Without": {0, 1, 2}} {
		for _, words := range [][]string{nil, {}} {
			if got, ok := textCalls()[name](w, words); !ok || !slices.Equal(got, want) {
				t.Errorf("%s of no words is %v %v", name, got, ok)
			}
		}
	}
}

func TestPromise10TextsByMostWords(t *testing.T) {
	words := manyUnlike(21)
	p := pages{strings.Join(words[:20], " "), strings.Join(words[1:21], " "), "w1019", "", "w1020"}
	w := wantIndex(t, p)
	wantTexts(t, p, w, words[:20]...)
	wantTexts(t, p, w, words[1:]...)
	wantTexts(t, p, w, slices.Repeat([]string{"w1019"}, 20)...)
	wantTexts(t, p, w, slices.Repeat([]string{"w1019", "w1018"}, 10)...)
	wantTexts(t, p, w, append(slices.Repeat([]string{"nowhere"}, 19), "w1020")...)
	for _, many := range [][]string{words, slices.Repeat([]string{"w1019"}, 21), slices.Repeat([]string{"nowhere"}, 21), slices.Repeat([]string{"a"}, 1000000)} {
		wantNoTexts(t, "a word too many", w, many)
		wantNoTexts(t, "a word too many", impl.Words{}, many)
	}
}

func TestPromise10TextsByMostTexts(t *testing.T) {
	most := slices.Repeat(pages{"cat", "dog", "cat dog", ""}, 10)
	w := wantIndex(t, most)
	for _, words := range [][]string{nil, {"cat"}, {"dog"}, {"cat", "dog"}, {"nowhere"}} {
		wantTexts(t, most, w, words...)
	}
}

func TestPromise10TextsByWhatIsNoWord(t *testing.T) {
	w := wantIndex(t, pages{"The cat", "", "ca t"})
	for _, none := range noWords() {
		for _, words := range [][]string{{none}, {"cat", none}, {none, "cat"}, {"nowhere", none, "the"}, append(slices.Repeat([]string{"cat"}, 19), none)} {
			wantNoTexts(t, none, w, words)
			wantNoTexts(t, none, impl.Words{}, words)
		}
	}
}

func TestPromise10TextsByWordsOfManyTexts(t *testing.T) {
	d := &dice{state: 103}
	for range 400 {
		p := d.pages(9)
		w := wantIndex(t, p)
		for range 8 {
			wantTexts(t, p, w, d.asked(p)...)
		}
	}
}
