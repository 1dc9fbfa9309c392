package tests

import (
	"strings"
	"testing"

	"loop.example/g00274/impl"
)

func (d *dice) lineId() tree {
	switch d.below(10) {
	case 0, 1, 2, 3, 4:
		return numberTree(d.below(7))
	case 5, 6:
		return textTree([]string{"", "1", "x", "a b"}[d.below(4)])
	case 7:
		return textTree(strings.Repeat(d.pick("ab"), 24))
	case 8:
		return d.keyTree()
	}
	return d.small(2)
}

func (d *dice) lineDoc() tree {
	x := mapOf("_id", d.lineId())
	if d.below(12) == 0 {
		x = mapOf("id", numberTree(d.below(5)))
	}
	if d.below(5) > 0 {
		x = x.with("a", []tree{numberTree(d.below(9) - 4), numberTree(d.below(9) - 4), d.keyTree(), d.small(2)}[d.below(4)])
	}
	if d.below(4) == 0 {
		x = x.with("b", d.small(2))
	}
	return x
}

// told writes a value with blanks and in other orders, but for the byte 10, which would end the line.
func (d *dice) told(x tree) string {
	if d.below(2) == 0 {
		return x.tidy()
	}
	return strings.ReplaceAll(d.loose(x), "\n", " ")
}

func (d *dice) goodLine() string {
	switch d.below(15) {
	case 0, 1, 2, 3:
		return "insert " + d.told(d.lineDoc())
	case 4:
		return "replace " + d.told(d.lineDoc())
	case 5:
		return "delete " + d.told(d.lineId())
	case 6:
		return "find " + d.told(d.lineId())
	case 7, 8:
		return []string{"eq ", "lt ", "gt "}[d.below(3)] + []string{"/a", "/a", "/a", "/b", "/_id", "", "/a/0"}[d.below(7)] + " " + d.told(d.keyTree())
	case 9, 10:
		by := []tree{numberTree(d.below(9) - 4), numberTree(d.below(9) - 4), numberTree(1000000000), d.small(1)}[d.below(4)]
		return "inc " + d.told(d.lineId()) + " " + d.told(by)
	case 11:
		return "tidy " + d.told(d.small(3))
	case 12:
		return "patch " + d.told(d.patch(2)) + " " + d.told(d.patch(2))
	case 13:
		return []string{"words ", "twice "}[d.below(2)] + strings.ReplaceAll(d.text(20), "\n", "")
	}
	return "keys"
}

// line tells lines of the document's, some of them disturbed.
func (d *dice) line() string {
	line := d.goodLine()
	switch d.below(12) {
	case 0:
		return strings.ReplaceAll(d.scribble(line), "\n", "")
	case 1:
		return []string{"", " ", "fly", line + " ", " " + line, line + " 1", strings.ToUpper(line), strings.Split(line, " ")[0]}[d.below(8)]
	}
	return line
}

// script tells lines that are one, at most so many.
func (d *dice) script(most int) []string {
	var lines []string
	bytes := 0
	for range d.below(most + 1) {
		line := d.line()
		bytes += len(line) + 1
		if bytes > 2500 {
			break
		}
		lines = append(lines, line)
	}
	return lines
}

func TestPromise18DrawnScriptsAgainstTheTale(t *testing.T) {
	d := &dice{state: 181}
	times := map[string]int{}
	for range 1500 {
		for _, answer := range wantScript(t, d.script(80)...) {
			word := strings.Split(answer, " ")[0]
			if word == "no" {
				word = answer
			}
			times[word]++
		}
	}
	for _, word := range []string{"ok", "no", "no 1", "no 2", "no 3", "no 4", "doc", "none", "found", "keys", "text", "words", "twice", "what"} {
		if times[word] < 40 {
			t.Errorf("%q is answered %d times: that tells little", word, times[word])
		}
	}
}

// firstAnswers are those to so many lines, each with its byte 10.
func firstAnswers(answers string, many int) string {
	return strings.Join(strings.SplitAfter(answers, "\n")[:many], "")
}

// Each beginning of lines has the same answers, whatever follows.
func TestPromise18AnswersDoNotHangOnWhatFollows(t *testing.T) {
	d := &dice{state: 182}
	for range 60 {
		lines := d.script(40)
		whole := impl.RunDocs(scriptOf(lines...))
		if many := strings.Count(whole, "\n"); many != len(lines) || len(lines) > 0 && !strings.HasSuffix(whole, "\n") {
			t.Fatalf("%d answers to %q", many, lines)
		}
		for many := range len(lines) + 1 {
			ahead := scriptOf(lines[:many]...)
			want := firstAnswers(whole, many)
			if got := impl.RunDocs(ahead); got != want {
				t.Fatalf("RunDocs(%q) is %q, and of more lines it began with %q", ahead, got, want)
			}
			for range 2 {
				text := ahead + scriptOf(d.script(8)...)
				if len(text) > 2500 {
					continue
				}
				if got := impl.RunDocs(text); !strings.HasPrefix(got, want) || strings.Count(got, "\n") != strings.Count(text, "\n") {
					t.Fatalf("RunDocs(%q) is %q, and without what follows %q", text, got, want)
				}
			}
		}
	}
}

// Each document of the collection in the end is found by one line more, and there are as many as a term tells that all match.
func TestPromise18DocsAreWhatTheNextLineFinds(t *testing.T) {
	d := &dice{state: 183}
	docs := 0
	for range 200 {
		text := scriptOf(d.script(30)...)
		c, ok := impl.DocsOf(text)
		if !ok || !impl.GoodCollection(c) || !oracleGoodCollection(c) {
			t.Fatalf("DocsOf(%q) is %v %v", text, c, ok)
		}
		var more []string
		var want string
		for _, v := range c.Docs {
			id, _ := impl.IdOf(v)
			name, _ := impl.ValueText(id)
			body, _ := impl.ValueText(v)
			more = append(more, "find "+name)
			want += "doc " + body + "\n"
			docs++
		}
		if next := text + scriptOf(more...); len(next) <= 2500 {
			if got := strings.TrimPrefix(impl.RunDocs(next), impl.RunDocs(text)); got != want {
				t.Errorf("behind %q: %q, not %q", text, got, want)
			}
			again, _ := impl.DocsOf(next)
			if !sameCollection(c, again) {
				t.Errorf("behind %q the collection is %v, not %v", text, again, c)
			}
		}
	}
	if docs < 500 {
		t.Errorf("%d documents: that tells little", docs)
	}
}

// With so many lines the collection is full at times, and has room again.
func TestPromise18LinesOfManyDocuments(t *testing.T) {
	d := &dice{state: 184}
	full, room := 0, 0
	for range 60 {
		var lines []string
		for range 80 {
			id := numberTree(d.below(99))
			line := "insert " + mapOf("_id", id).with("a", numberTree(d.below(9))).tidy()
			if d.below(9) == 0 {
				line = "delete " + id.tidy()
			}
			lines = append(lines, line)
		}
		if len(scriptOf(lines...)) > 2500 {
			t.Fatal("the test is not as it says")
		}
		for k, answer := range wantScript(t, lines...) {
			if answer == "no 4" {
				full++
			}
			if answer == "ok" && strings.HasPrefix(lines[k], "delete") {
				room++
			}
		}
	}
	if full < 20 || room < 20 {
		t.Errorf("%d times full, %d deleted: that tells little", full, room)
	}
}
