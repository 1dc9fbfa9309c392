package tests

import (
	"slices"
	"strings"
	"sync"
	"testing"

	"loop.example/g00274/impl"
)

// oracleLines tells the lines of a script, and false of what is none.
func oracleLines(text string) ([]string, bool) {
	lines := strings.Split(text, "\n")
	last := len(lines) - 1
	return lines[:last], len(text) <= 2500 && last <= 80 && lines[last] == ""
}

// wantAnswered asks both functions of any text for what the chapter says of it.
func wantAnswered(t *testing.T, text string) bool {
	t.Helper()
	lines, ok := oracleLines(text)
	if ok {
		wantScript(t, lines...)
	} else {
		wantNoScript(t, "any text", text)
	}
	return ok
}

func docWords() []string {
	return []string{"insert", "replace", "delete", "find", "eq", "lt", "gt", "inc", "keys", "tidy", "patch", "words", "twice"}
}

func TestPromise19ScriptsOfEachByte(t *testing.T) {
	for c := range 256 {
		b := string([]byte{byte(c)})
		wantAnswered(t, b)
		wantAnswered(t, b+"\n")
		wantAnswered(t, b+b+"\n"+b+"\n")
		wantAnswered(t, "keys\n"+b)
		var lines []string
		for _, word := range docWords() {
			lines = append(lines, word+b, b+word, word+b+"1", word+" "+b, word+" 1 "+b)
		}
		wantAnswered(t, scriptOf(lines...))
		lines = nil
		for _, word := range docWords() {
			lines = append(lines, word+" "+b+b, word+" \""+b+"\"", word+" /"+b+" 1", word+" /a "+b+" 1", word+" 1"+b+"1", `insert {"_id":"`+b+`"}`)
		}
		wantAnswered(t, scriptOf(lines...))
	}
}

func TestPromise19ScriptsOfAnyBytes(t *testing.T) {
	d := &dice{state: 191}
	scripts := 0
	for range 3000 {
		text := ""
		for range d.below([]int{10, 100, 700}[d.below(3)]) {
			switch d.below(12) {
			case 0, 1:
				text += "\n"
			case 2:
				text += docWords()[d.below(13)] + " "
			case 3:
				text += d.pick("0123456789") + d.pick("\"{}[]/:, ")
			case 4:
				text += " "
			default:
				text += string([]byte{byte(d.below(256))})
			}
		}
		if d.below(4) > 0 {
			text += "\n"
		}
		scripts += asNumber(wantAnswered(t, text))
	}
	if scripts < 500 || scripts > 2800 {
		t.Errorf("%d of 3000 are scripts: that tells little", scripts)
	}
}

func TestPromise19LongScripts(t *testing.T) {
	for _, s := range []string{"x", "\n", " ", "keys\n", "keys ", "insert {\"_id\":1}\n", "words a\n", "\xff", "\x00\n", "[", "{\"a\":", "/a", "insert "} {
		long := strings.Repeat(s, 1000000)
		wantNoScript(t, "a million times "+s, long)
		wantNoScript(t, "a million times "+s+" and a byte 10", long+"\n")
		wantNoScript(t, "behind a script, a million times "+s, scriptOf(fewDocs()...)+long+"\n")
		for _, ahead := range []string{"", "tidy ", "insert ", "find ", "eq ", "eq /a ", "inc ", "inc 1 ", "patch ", "patch {} ", "words ", "twice ", "delete "} {
			line := ahead + strings.ReplaceAll(long[:2400], "\n", " ")
			wantAnswered(t, line+"\n")
			wantAnswered(t, line)
			wantAnswered(t, scriptOf(ahead+strings.ReplaceAll(s, "\n", " "), line))
		}
	}
}

// Each beginning, each end, and each script in which a byte is another one, or not there.
func TestPromise19DisturbedScripts(t *testing.T) {
	text := scriptOf(`insert {"_id":1,"a":3}`, `insert {"_id":"x"}`, `inc "x" 4`, `gt /a 2`, `find "x"`, `patch {"a":1} {"b":2}`, `keys`, `delete 1`, `twice aba`)
	d := &dice{state: 192}
	for k := range len(text) + 1 {
		wantAnswered(t, text[:k])
		wantAnswered(t, text[k:])
		wantAnswered(t, text[:k]+"\n"+text[k:])
		wantAnswered(t, text[:k]+" "+text[k:])
		if k == len(text) {
			break
		}
		wantAnswered(t, text[:k]+text[k+1:])
		for range 6 {
			wantAnswered(t, text[:k]+d.pick("\n \"{}[],:/019ax\x00\x7f\xff")+text[k+1:])
		}
	}
}

// someScripts have collections with and without documents, keys and changes.
func someScripts() []string {
	long := times(40, "")
	for k := range long {
		long[k] = `insert {"_id":` + numberTree(k).tidy() + `,"a":` + numberTree(k%5).tidy() + `}`
	}
	return []string{
		"", "\n", "keys\n", "fly\n", scriptOf(fewDocs()...), scriptOf(long...), scriptOf(append(long, `insert {"_id":40}`, "delete 0", "inc 1 5")...),
		scriptOf(append(fewDocs(), "delete 1", "inc 2 4", `replace {"_id":5,"a":"new"}`)...), scriptOf(append(fewDocs(), "inc 1 0", `replace {"_id":4}`)...),
		scriptOf(`insert {"_id":1}`, "delete 1"), scriptOf(`insert {"_id":1,"a":[1,{"b":[2]}]}`, "find 1", "eq /a/0 1"), "keys", strings.Repeat("\n", 81),
	}
}

func TestPromise19DocsShareNothing(t *testing.T) {
	for _, text := range someScripts() {
		first, _ := impl.DocsOf(text)
		wantZeroBehind(t, "DocsOf", first.Docs, first.Indexes)
		wantAllApart(t, "DocsOf", func() []piece {
			one, _ := impl.DocsOf(text)
			other, _ := impl.DocsOf(text)
			return append(collectionPieces(one), collectionPieces(other)...)
		})
	}
}

// A later change of what DocsOf answered changes no other answer, neither an earlier nor a later one.
func TestPromise19DocsThatAreChangedLater(t *testing.T) {
	for _, text := range someScripts() {
		said := impl.RunDocs(text)
		kept, ok := impl.DocsOf(text)
		before := tellPieces(collectionPieces(kept))
		spoilt, _ := impl.DocsOf(text)
		for _, p := range collectionPieces(spoilt) {
			p.spoil()
		}
		again, okAgain := impl.DocsOf(text)
		if ok != okAgain || !sameCollection(kept, again) || !slices.Equal(tellPieces(collectionPieces(kept)), before) {
			t.Errorf("DocsOf(%q) was %v and is %v", text, before, again)
		}
		if now := impl.RunDocs(text); now != said {
			t.Errorf("RunDocs(%q) was %q and is %q", text, said, now)
		}
		if ok && !impl.GoodCollection(again) {
			t.Errorf("DocsOf(%q) is not good: %v", text, again)
		}
	}
}

// What one script made is not seen by another one, be it asked behind it or at once.
func TestPromise19ScriptsStandApart(t *testing.T) {
	texts := someScripts()
	var said []string
	for _, text := range texts {
		said = append(said, impl.RunDocs(text))
	}
	for k := len(texts) - 1; k >= 0; k-- {
		for range 2 {
			if got := impl.RunDocs(texts[k]); got != said[k] {
				t.Errorf("RunDocs(%q) was %q and is %q", texts[k], said[k], got)
			}
			wantAnswered(t, texts[k])
		}
	}
	var all sync.WaitGroup
	for k, text := range texts {
		all.Go(func() {
			for range 5 {
				if got := impl.RunDocs(text); got != said[k] {
					t.Errorf("at once with others RunDocs(%q) is %q, not %q", text, got, said[k])
				}
			}
		})
	}
	all.Wait()
}
