package tests

import (
	"strings"
	"testing"

	"loop.example/g00274/impl"
)

func TestPromise18TheExample(t *testing.T) {
	text := wantSpoken(t,
		spoken{`insert {"_id":1,"a":3}`, "ok"},
		spoken{`insert {"a":9,"_id":2}`, "ok"},
		spoken{`insert {"_id":1}`, "no 2"},
		spoken{`find 2`, `doc {"_id":2,"a":9}`},
		spoken{`eq /a 3`, "found 1 of 1"},
		spoken{`inc 1 4`, "ok"},
		spoken{`gt /a 5`, "found 2 of 2"},
		spoken{`keys`, "keys 2"},
		spoken{`delete 2`, "ok"},
		spoken{`find 2`, "none"},
		spoken{`tidy [ 1 , 2 ]`, "text [1,2]"},
		spoken{`patch {"a":1} {"a":null,"b":2}`, `text {"b":2}`},
		spoken{`words The cat`, "words the cat"},
		spoken{`twice banana`, "twice ana"},
		spoken{`fly`, "what"})
	c, _ := impl.DocsOf(text)
	if len(c.Docs) != 1 || !sameValue(c.Docs[0], treeIn(`{"_id":1,"a":7}`).value()) || len(c.Indexes) != 1 || c.Indexes[0].Path != "/a" || c.Indexes[0].Unique {
		t.Errorf("DocsOf is %v", c)
	}
}

// Nothing is a script of no lines: it has no answers, and a collection.
func TestPromise18NoLines(t *testing.T) {
	if got := impl.RunDocs(""); got != "" {
		t.Errorf("RunDocs of nothing is %q", got)
	}
	wantDocs(t, "", shelfOf("/a"))
	c, ok := impl.DocsOf("")
	if made, _ := impl.NewCollection([]string{"/a"}, []bool{false}); !ok || !sameCollection(c, made) {
		t.Errorf("DocsOf of nothing is %v %v", c, ok)
	}
}

func TestPromise18OneLine(t *testing.T) {
	for line, answer := range map[string]string{
		`insert {"_id":1}`: "ok", `delete 1`: "no 3", `find 1`: "none", `keys`: "keys 0", `eq /a 1`: "found 0 of 0", `inc 1 1`: "no 3",
		`tidy 1`: "text 1", `patch 1 2`: "text 2", `words a`: "words a", `twice aa`: "twice a", `fly`: "what", ``: "what", ` `: "what",
	} {
		wantSpoken(t, spoken{line, answer})
		if line != "" {
			wantNoScript(t, "without a byte 10", line)
		}
	}
}

func TestPromise18EmptyLines(t *testing.T) {
	for _, many := range []int{1, 2, 3, 79, 80} {
		if got := impl.RunDocs(strings.Repeat("\n", many)); got != strings.Repeat("what\n", many) {
			t.Errorf("%d empty lines are %q", many, got)
		}
		wantDocs(t, strings.Repeat("\n", many), shelfOf("/a"))
	}
	wantNoScript(t, "81 empty lines", strings.Repeat("\n", 81))
	wantSpoken(t, spoken{"", "what"}, spoken{`insert {"_id":1,"a":1}`, "ok"}, spoken{"", "what"}, spoken{"", "what"}, spoken{"keys", "keys 1"}, spoken{"", "what"})
}

func TestPromise18EachLineHasAByteTenBehindIt(t *testing.T) {
	for _, ahead := range [][]string{nil, {"keys"}, {""}, fewDocs(), times(79, "keys"), times(79, ""), times(80, "keys")} {
		for _, last := range []string{"k", "keys", " ", "\r", "\x00", "what", `insert {"_id":9}`} {
			wantNoScript(t, "no byte 10 behind the last line "+last, scriptOf(ahead...)+last)
		}
		if len(ahead) < 80 {
			wantScript(t, append(ahead, "keys")...)
		}
	}
}

func TestPromise18LinesEndByTheByteTenAlone(t *testing.T) {
	wantSpoken(t, spoken{"keys\r", "what"}, spoken{"words a\rb", "words a b"}, spoken{"words a\u2028b\x0bc\x0cd\x85e", "words a b c d e"}, spoken{"\r", "what"}, spoken{"keys\x00", "what"})
	wantNoScript(t, "other bytes", "keys\r")
	wantNoScript(t, "other bytes", "keys\n\rkeys\r")
}

func TestPromise18MaxLines(t *testing.T) {
	for _, line := range []string{"keys", "", "x", `insert {"_id":1}`, "inc 1 1", "twice aa"} {
		wantScript(t, times(79, line)...)
		wantScript(t, times(80, line)...)
		wantNoScript(t, "81 lines of "+line, scriptOf(times(81, line)...))
		wantNoScript(t, "82 lines of "+line, scriptOf(times(82, line)...))
	}
	wantNoScript(t, "80 lines and a byte", scriptOf(times(80, "keys")...)+"k")
	wantNoScript(t, "2500 lines", scriptOf(times(2500, "")...))
	counted := []spoken{{`insert {"_id":1,"a":0}`, "ok"}}
	for range 78 {
		counted = append(counted, spoken{"inc 1 1", "ok"})
	}
	wantSpoken(t, append(counted, spoken{"find 1", `doc {"_id":1,"a":78}`})...)
}

// filled puts a line behind others, by which the script has so many bytes.
func filled(bytes int, line string, ahead ...string) []string {
	room := bytes - len(scriptOf(append(ahead, line)...))
	return append(ahead, line+strings.Repeat("z", room))
}

func TestPromise18MaxScript(t *testing.T) {
	for _, ahead := range [][]string{nil, {"keys"}, fewDocs(), times(79, `insert {"_id":1}`)} {
		for _, line := range []string{"", "words ", "tidy ", "insert ", "keys", "twice ", "eq /"} {
			for _, bytes := range []int{2499, 2500} {
				l := filled(bytes, line, ahead...)
				if len(scriptOf(l...)) != bytes || len(l) > 80 {
					t.Fatal("the test is not as it says:", len(scriptOf(l...)))
				}
				wantScript(t, l...)
			}
			wantNoScript(t, "2501 bytes", scriptOf(filled(2501, line, ahead...)...))
			wantNoScript(t, "2502 bytes", scriptOf(filled(2502, line, ahead...)...))
		}
	}
	wantNoScript(t, "2500 bytes without a byte 10", strings.Repeat("z", 2500))
	wantNoScript(t, "2501 bytes, of which 2500 are a script", scriptOf(filled(2500, "", fewDocs()...)...)+"z")
	wantNoScript(t, "2501 bytes, the last one 10", scriptOf(filled(2500, "", fewDocs()...)...)+"\n")
}

func TestPromise18EachLineIsTakenBehindTheOnesAhead(t *testing.T) {
	wantSpoken(t,
		spoken{"find 1", "none"}, spoken{"keys", "keys 0"}, spoken{"eq /a 1", "found 0 of 0"},
		spoken{`insert {"_id":1,"a":1}`, "ok"},
		spoken{"find 1", `doc {"_id":1,"a":1}`}, spoken{"keys", "keys 1"}, spoken{"eq /a 1", "found 1 of 1"},
		spoken{`replace {"_id":1,"a":2}`, "ok"},
		spoken{"find 1", `doc {"_id":1,"a":2}`}, spoken{"keys", "keys 1"}, spoken{"eq /a 1", "found 0 of 0"},
		spoken{"delete 1", "ok"},
		spoken{"find 1", "none"}, spoken{"keys", "keys 0"}, spoken{"delete 1", "no 3"},
		spoken{`insert {"_id":1,"a":3}`, "ok"}, spoken{"find 1", `doc {"_id":1,"a":3}`})
}

// What is refused changes nothing: also what is no line of the document's, or looks at the collection alone.
func TestPromise18LinesThatChangeNothing(t *testing.T) {
	want := newLineTale()
	for _, line := range fewDocs() {
		want.answer(line)
	}
	refused := []string{
		`insert {"_id":1}`, `insert {"_id":[]}`, `insert {`, `replace {"_id":99}`, `replace 1`, `delete 99`, `delete [1]`, `delete x`,
		`find 1`, `eq /a 3`, `lt /a 3`, `gt /a 3`, `eq a 3`, `inc 99 1`, `inc 1 "x"`, `inc 5 1`, `inc x x`, `inc 1`, `inc 1 1 1`, `keys`,
		`tidy {"_id":1}`, `patch {"_id":1} {"_id":2}`, `words insert {"_id":50}`, `twice aa`, `fly`, ``, ` insert {"_id":50}`, `Insert {"_id":50}`, `insert`, `insert{"_id":50}`,
	}
	wantScript(t, append(fewDocs(), refused...)...)
	wantDocs(t, scriptOf(append(fewDocs(), refused...)...), want.shelf)
}
