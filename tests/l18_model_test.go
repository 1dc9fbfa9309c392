package tests

import (
	"fmt"
	"regexp"
	"slices"
	"strconv"
	"strings"
	"testing"

	"loop.example/g00274/impl"
)

// The forms of lines; all that has none of them is answered by what.
var oneThingForm = regexp.MustCompile(`^(insert|replace|delete|find|tidy|patch|words|twice) (.*)$`)
var termForm = regexp.MustCompile(`^(eq|lt|gt) ([^ ]*) (.*)$`)
var incForm = regexp.MustCompile(`^inc ([^ ]*) ([^ ]*)$`)
var twoForm = regexp.MustCompile(`^([^ ]*) ([^ ]*)$`)

// lineTale is what a script's lines have made so far, told by trees alone.
type lineTale struct {
	shelf shelf
}

func newLineTale() *lineTale {
	return &lineTale{shelf: shelfOf("/a")}
}

func (l *lineTale) answer(line string) string {
	if line == "keys" {
		return "keys " + strconv.Itoa(len(l.shelf.keys(0)))
	}
	if m := oneThingForm.FindStringSubmatch(line); m != nil {
		return l.answerOne(m[1], m[2])
	}
	if m := termForm.FindStringSubmatch(line); m != nil {
		return l.answerTerm(m[1], m[2], m[3])
	}
	if m := incForm.FindStringSubmatch(line); m != nil {
		return l.answerInc(m[1], m[2])
	}
	return "what"
}

func (l *lineTale) answerOne(word string, told string) string {
	x, read := oracleRead(told)
	switch word {
	case "insert", "replace", "delete":
		if !read {
			return "no 1"
		}
		return l.changed(word, x)
	case "find":
		doc, there := l.doc(x)
		if !read || !there {
			return "none"
		}
		return "doc " + doc.tidy()
	case "tidy":
		return textOrNo("text", x.sized(), read)
	case "patch":
		return answerPatch(told)
	case "words":
		if len(told) > 200 {
			return "no"
		}
		return strings.Join(append([]string{"words"}, oracleWords(told)...), " ")
	}
	if len(told) > 120 {
		return "no"
	}
	return textOrNo("twice", oracleTwice(told), oracleTwice(told) != "")
}

// sized is the text of a tree, and nothing of none.
func (x tree) sized() string {
	if x.kind == 0 {
		return ""
	}
	return x.tidy()
}

func textOrNo(word string, text string, ok bool) string {
	if !ok {
		return "no"
	}
	return word + " " + text
}

func okOrNo(code int) string {
	if code != 0 {
		return "no " + strconv.Itoa(code)
	}
	return "ok"
}

func (l *lineTale) changed(word string, x tree) string {
	change := map[string]func(shelf, tree) (shelf, int){"insert": shelf.insert, "replace": shelf.replace, "delete": shelf.delete}[word]
	made, code := change(l.shelf, x)
	l.shelf = made
	return okOrNo(code)
}

func (l *lineTale) doc(id tree) (tree, bool) {
	for _, x := range l.shelf.docs {
		if order(x.id(), id) == 0 {
			return x, true
		}
	}
	return tree{}, false
}

func (l *lineTale) answerTerm(word string, path string, told string) string {
	kind := map[string]int{"eq": impl.TermEq, "lt": impl.TermLt, "gt": impl.TermGt}[word]
	x, read := oracleRead(told)
	_, isPath := oraclePath(path)
	if !read || !isPath {
		return "no"
	}
	w := wish{kind: kind, path: path, value: x}
	return fmt.Sprintf("found %d of %d", len(l.shelf.matching(w)), l.shelf.looked(w))
}

func (l *lineTale) answerInc(id string, by string) string {
	asked, idRead := oracleRead(id)
	more, moreRead := oracleRead(by)
	if !idRead || !moreRead {
		return "no 1"
	}
	doc, there := l.doc(asked)
	if !there {
		return "no 3"
	}
	if more.kind != impl.KindNumber {
		return "no 1"
	}
	made, code := oracleAct(doc, impl.Act{Kind: impl.ActInc, Path: "/a", Value: more.value()})
	if code != 0 {
		return okOrNo(code)
	}
	return l.changed("replace", made)
}

func answerPatch(told string) string {
	m := twoForm.FindStringSubmatch(told)
	if m == nil {
		return "no"
	}
	x, read := oracleRead(m[1])
	p, patchRead := oracleRead(m[2])
	if !read || !patchRead || !x.patched(p).sound() {
		return "no"
	}
	return "text " + x.patched(p).tidy()
}

// spoken is a line with the answer that it must have.
type spoken struct {
	line   string
	answer string
}

func scriptOf(lines ...string) string {
	text := ""
	for _, line := range lines {
		text += line + "\n"
	}
	return text
}

func linesAsked(l []spoken) []string {
	var lines []string
	for _, s := range l {
		lines = append(lines, s.line)
	}
	return lines
}

func linesAnswered(l []spoken) []string {
	var lines []string
	for _, s := range l {
		lines = append(lines, s.answer)
	}
	return lines
}

// wantSpoken asks for an answer to each line, also of the test's own tale; it answers the whole script.
func wantSpoken(t *testing.T, l ...spoken) string {
	t.Helper()
	text := scriptOf(linesAsked(l)...)
	got := strings.Split(impl.RunDocs(text), "\n")
	if len(got) != len(l)+1 || got[len(l)] != "" {
		t.Fatalf("RunDocs(%q) tells %q", text, got)
	}
	tale := newLineTale()
	for k, s := range l {
		if got[k] != s.answer {
			t.Errorf("line %d, %q, is answered by %q, not %q", k, s.line, got[k], s.answer)
		}
		if own := tale.answer(s.line); own != s.answer {
			t.Errorf("line %d, %q: the test's own answer is %q", k, s.line, own)
		}
	}
	wantDocs(t, text, tale.shelf)
	return text
}

// wantSaid asks for the answer to one line that stands behind some others.
func wantSaid(t *testing.T, ahead []string, line string, answer string) {
	t.Helper()
	tale := newLineTale()
	l := []spoken{}
	for _, s := range ahead {
		l = append(l, spoken{s, tale.answer(s)})
	}
	wantSpoken(t, append(l, spoken{line, answer})...)
}

func wantDocs(t *testing.T, text string, want shelf) {
	t.Helper()
	c, ok := impl.DocsOf(text)
	if !ok {
		t.Errorf("DocsOf(%q) tells none", text)
	}
	wantShelf(t, "DocsOf", c, want)
}

// wantScript holds a whole script against the tale; it tells what the tale says.
func wantScript(t *testing.T, lines ...string) []string {
	t.Helper()
	tale := newLineTale()
	var l []spoken
	for _, line := range lines {
		l = append(l, spoken{line, tale.answer(line)})
	}
	text := scriptOf(lines...)
	if got, want := impl.RunDocs(text), scriptOf(linesAnswered(l)...); got != want {
		t.Errorf("RunDocs(%q) is %q, not %q", text, got, want)
	}
	wantDocs(t, text, tale.shelf)
	return linesAnswered(l)
}

func wantNoScript(t *testing.T, what string, text string) {
	t.Helper()
	if got := impl.RunDocs(text); got != "" {
		t.Errorf("%s: RunDocs is %.100q, and it is no script", what, got)
	}
	if c, ok := impl.DocsOf(text); ok || len(c.Docs) != 0 || len(c.Indexes) != 0 {
		t.Errorf("%s: DocsOf is %v %v, and it is no script", what, c, ok)
	}
}

// fewDocs are lines that make a collection in which ids are numbers and texts, and in which some have no key.
func fewDocs() []string {
	return []string{
		`insert {"_id":1,"a":3}`, `insert {"_id":2,"a":9,"b":3}`, `insert {"_id":"1","a":3}`, `insert {"_id":4}`, `insert {"_id":5,"a":[3]}`, `insert {"_id":"x","a":"3"}`, `insert {"_id":7,"a":-3}`,
	}
}

func saysNo(answer string) bool {
	return answer == "no" || strings.HasPrefix(answer, "no ")
}

// wantEach asks for the same answer to each line, each behind the same others.
func wantEach(t *testing.T, ahead []string, answer string, lines ...string) {
	t.Helper()
	for _, line := range lines {
		wantSaid(t, ahead, line, answer)
	}
}

func times(many int, line string) []string {
	return slices.Repeat([]string{line}, many)
}
