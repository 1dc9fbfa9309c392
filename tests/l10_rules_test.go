package tests

import (
	"slices"
	"strings"
	"testing"

	"loop.example/g00274/impl"
)

// threeWords are good: of four texts, the last one without words.
func threeWords() impl.Words {
	return impl.Words{Texts: 4, Entries: []impl.Entry{
		{Word: "a", List: listFrom(0, 1, 1, 2, 2, 100)},
		{Word: "cat", List: listFrom(2, 3)},
		{Word: "x9", List: listFrom(0, 1, 2, 1)},
	}}
}

func wordsWith(change func(w *impl.Words)) impl.Words {
	w := threeWords()
	change(&w)
	return w
}

func wordAs(k int, word string) impl.Words {
	return wordsWith(func(w *impl.Words) { w.Entries[k].Word = word })
}

func listAs(k int, numbers ...int) impl.Words {
	return wordsWith(func(w *impl.Words) { w.Entries[k].List = listFrom(numbers...) })
}

func textsAs(many int) impl.Words {
	return wordsWith(func(w *impl.Words) { w.Texts = many })
}

func wordsOfEntries(words []string) impl.Words {
	w := impl.Words{Texts: 1}
	for _, word := range words {
		w.Entries = append(w.Entries, impl.Entry{Word: word, List: listFrom(0, 1)})
	}
	return w
}

func brokenTexts() map[string]impl.Words {
	return map[string]impl.Words{
		"texts below 0":               textsAs(-1),
		"texts below 0 without words": {Texts: -1},
		"the least texts":             {Texts: least},
		"texts above MaxTexts":        textsAs(41),
		"41 texts without words":      {Texts: 41},
		"the greatest texts":          textsAs(greatest),
		"the greatest without words":  {Texts: greatest},
		"a text fewer than told":      textsAs(2),
		"no texts, but words":         textsAs(0),
	}
}

func brokenEntries() map[string]impl.Words {
	return map[string]impl.Words{
		"a word too many":           wordsOfEntries(manyUnlike(201)),
		"many words too many":       wordsOfEntries(slices.Repeat([]string{"a"}, 100000)),
		"an empty word":             wordAs(0, ""),
		"an empty word alone":       wordsOfEntries([]string{""}),
		"an empty word behind":      wordAs(2, ""),
		"a word of 21 bytes":        wordAs(1, strings.Repeat("b", 21)),
		"a word of 21 bytes, last":  wordAs(2, strings.Repeat("z", 21)),
		"a word of a million bytes": wordAs(2, strings.Repeat("z", 1000000)),
		"a great letter":            wordsOfEntries([]string{"A"}),
		"a great letter within":     wordAs(1, "cAt"),
		"a blank":                   wordAs(1, "ca t"),
		"a blank behind":            wordAs(1, "cat "),
		"a byte 0":                  wordAs(1, "cat\x00"),
		"a byte 255":                wordAs(2, "x\xff"),
		"a letter of two bytes":     wordAs(2, "z\u00e9"),
		"a byte below the digits":   wordAs(1, "c/"),
		"a byte above the digits":   wordAs(1, "c:"),
		"a byte below a":            wordAs(1, "c`"),
		"a byte above z":            wordAs(1, "c{"),
		"a word twice":              wordAs(1, "a"),
		"a word twice, behind":      wordAs(2, "cat"),
		"words that fall":           wordAs(0, "d"),
		"words that fall, behind":   wordAs(2, "b"),
		"a longer word ahead":       wordAs(0, "cats"),
		"a digit behind a letter":   wordAs(2, "9"),
	}
}

func brokenEntryLists() map[string]impl.Words {
	all := map[string]impl.Words{
		"an empty list":                  listAs(0),
		"an empty list, last":            listAs(2),
		"nothing but zeros":              {Texts: 1, Entries: []impl.Entry{{}}},
		"a text that is none":            listAs(1, 4, 1),
		"a text that is none, behind":    listAs(2, 0, 1, 4, 1),
		"a text that is none, of a few":  {Texts: 1, Entries: []impl.Entry{{Word: "a", List: listFrom(1, 1)}}},
		"a text that is none, of none":   {Entries: []impl.Entry{{Word: "a", List: listFrom(0, 1)}}},
		"the text 40 of 40":              {Texts: 40, Entries: []impl.Entry{{Word: "a", List: listFrom(40, 1)}}},
		"a million postings":             wordsWith(func(w *impl.Words) { w.Entries[1].List = make([]impl.Posting, 1000000) }),
		"a million of one text":          wordsWith(func(w *impl.Words) { w.Entries[1].List = slices.Repeat(listFrom(0, 1), 1000000) }),
		"a text more than there can be":  listAs(0, 0, 1, 1, 1, 2, 1, 3, 1, 4, 1),
		"a text of the front once again": listAs(0, 0, 1, 1, 1, 2, 1, 0, 1),
	}
	for what, l := range brokenLists() {
		for k, name := range []string{"first", "second", "third"} {
			all[what+" in the "+name+" list"] = wordsWith(func(w *impl.Words) { w.Entries[k].List = l })
		}
	}
	return all
}

func brokenWords() map[string]impl.Words {
	all := brokenTexts()
	for what, w := range brokenEntries() {
		all[what] = w
	}
	for what, w := range brokenEntryLists() {
		all[what] = w
	}
	return all
}

func TestPromise10WordsThatBreakARule(t *testing.T) {
	for rule, w := range brokenWords() {
		if len(w.Entries) < 1000 && oracleGoodWords(w) {
			t.Errorf("%s: they are good", rule)
		}
		wantNoWords(t, rule, w)
	}
}

func TestPromise10WordsThatAreGood(t *testing.T) {
	most := wordsOfEntries(manyUnlike(200))
	full := impl.Words{Texts: 40}
	for _, word := range manyUnlike(200) {
		full.Entries = append(full.Entries, impl.Entry{Word: word, List: manyPostings(40, 0)})
	}
	for what, w := range map[string]impl.Words{
		"none":                         {},
		"none, with room":              {Entries: make([]impl.Entry, 0, 5)},
		"texts without words":          {Texts: 3},
		"40 texts without words":       {Texts: 40},
		"three":                        threeWords(),
		"texts that are without words": textsAs(40),
		"as many texts as are told":    textsAs(3),
		"once":                         listAs(1, 2, 1),
		"100 times":                    listAs(1, 2, 100),
		"the first and the last text":  listAs(1, 0, 1, 3, 1),
		"the text 39 of 40":            {Texts: 40, Entries: []impl.Entry{{Word: "a", List: listFrom(39, 1)}}},
		"each text":                    listAs(0, 0, 1, 1, 1, 2, 1, 3, 1),
		"a word of 20 bytes":           wordAs(2, strings.Repeat("z", 20)),
		"digits":                       wordsOfEntries([]string{"0", "00", "9", "90", "a", "a0", "aa", "z", "zz"}),
		"200 words":                    most,
		"200 words of 40 texts":        full,
		// A text with it would be too long: but Times is asked for by itself.
		"20 bytes 100 times": {Texts: 1, Entries: []impl.Entry{{Word: strings.Repeat("z", 20), List: listFrom(0, 100)}}},
	} {
		if !impl.GoodWords(w) || !oracleGoodWords(w) {
			t.Errorf("%s: not good: %v", what, w)
		}
	}
}

func TestPromise10GoodWordsOfEachNumber(t *testing.T) {
	numbers := []int{least, -1000, -2, -1, 0, 1, 2, 3, 4, 5, 39, 40, 41, 99, 100, 101, 127, 128, 255, 256, 257, 10000, 10001, 1 << 32, greatest}
	for _, n := range numbers {
		all := []impl.Words{textsAs(n), {Texts: n}}
		for k, e := range threeWords().Entries {
			for at := range e.List {
				all = append(all, wordsWith(func(w *impl.Words) { w.Entries[k].List[at].Text = n }))
				all = append(all, wordsWith(func(w *impl.Words) { w.Entries[k].List[at].Times = n }))
			}
		}
		for _, w := range all {
			want := oracleGoodWords(w)
			if got := impl.GoodWords(w); got != want {
				t.Errorf("GoodWords(%v) is %v", w, got)
			}
			if !want {
				wantNoWords(t, "any number", w)
			}
		}
	}
}

func TestPromise10GoodWordsOfEachByte(t *testing.T) {
	for c := range 256 {
		for _, word := range []string{string([]byte{byte(c)}), string([]byte{'b', byte(c)}), string([]byte{byte(c), 'b'}), string([]byte{'b', byte(c), 'b'})} {
			w := wordsOfEntries([]string{word})
			if got := impl.GoodWords(w); got != oracleGoodWords(w) {
				t.Errorf("GoodWords of %q is %v", word, got)
			}
		}
	}
}

func (d *dice) disturbWords(w *impl.Words) {
	if d.below(8) == 0 || len(w.Entries) == 0 {
		w.Texts = []int{-1, 0, w.Texts - 1, w.Texts + 1, 40, 41}[d.below(6)]
		return
	}
	k, other := d.below(len(w.Entries)), d.below(len(w.Entries))
	e := &w.Entries[k]
	at := d.below(len(e.List))
	switch d.below(7) {
	case 0:
		e.List[at].Text = d.below(w.Texts+3) - 1
	case 1:
		e.List[at].Times = []int{-1, 0, 1, 99, 100, 101}[d.below(6)]
	case 2:
		e.Word = []string{"", "A", "a", "b0", "cat", "dog", "zz", "z ", strings.Repeat("y", 20), strings.Repeat("y", 21)}[d.below(10)]
	case 3:
		w.Entries[k], w.Entries[other] = w.Entries[other], w.Entries[k]
	case 4:
		e.List = append(e.List, impl.Posting{Text: d.below(w.Texts + 2), Times: 1})
	case 5:
		w.Entries = slices.Delete(w.Entries, k, k+1)
	case 6:
		e.Word = e.Word[:d.below(len(e.Word)+1)]
	}
}

func TestPromise10GoodWordsAgainstTheRules(t *testing.T) {
	d := &dice{state: 106}
	good, bad := 0, 0
	for range 6000 {
		w := d.pages(5).words()
		d.disturbWords(&w)
		want := oracleGoodWords(w)
		if got := impl.GoodWords(w); got != want {
			t.Errorf("GoodWords(%v) is %v", w, got)
		}
		if want {
			good++
			continue
		}
		bad++
		wantNoWords(t, "disturbed", w)
	}
	if good < 1000 || bad < 1000 {
		t.Errorf("%d good and %d bad: that tells little", good, bad)
	}
}
