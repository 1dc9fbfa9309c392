package tests

import (
	"regexp"
	"strconv"
	"strings"
	"testing"

	"loop.example/g00274/impl"
)

// opTextAsTold takes an op with a good document, or with none.
func opTextAsTold(o impl.Op) string {
	doc := ""
	if o.Kind == impl.DoPut {
		doc = treeOf(o.Doc.Nodes, 0).tidy()
	}
	return strings.Join([]string{strconv.Itoa(o.Kind), strconv.Itoa(o.Id), strconv.Itoa(o.Session), strconv.Itoa(o.No), doc}, " ")
}

var opForm = regexp.MustCompile(`^(1|2) (0|[1-9][0-9]?|100) (0|[1-9][0-9]?|100) ([1-9][0-9]{0,2}|1000) ((?s).*)$`)

// oracleReadOp tells a text's pieces by its form, and reads the document by the library's reader.
func oracleReadOp(s string) (impl.Op, bool) {
	pieces := opForm.FindStringSubmatch(s)
	if pieces == nil {
		return impl.Op{}, false
	}
	var numbers []int
	for _, piece := range pieces[1:5] {
		n, _ := strconv.Atoi(piece)
		numbers = append(numbers, n)
	}
	o := impl.Op{Kind: numbers[0], Id: numbers[1], Session: numbers[2], No: numbers[3]}
	if o.Kind == impl.DoDel {
		return o, pieces[5] == ""
	}
	x, ok := oracleRead(pieces[5])
	if !ok || x.tidy() != pieces[5] {
		return impl.Op{}, false
	}
	o.Doc = x.value()
	return o, true
}

// wantRead asks that an op and its text tell one another.
func wantRead(t *testing.T, what string, s string, o impl.Op) {
	t.Helper()
	if got, ok := impl.OpText(o); got != s || !ok {
		t.Errorf("%s: OpText(%v) is %q %v, not %q", what, o, got, ok, s)
	}
	if got, ok := impl.ReadOp(s); !ok || !sameOp(got, o) {
		t.Errorf("%s: ReadOp(%q) is %v %v, not %v", what, s, got, ok, o)
	}
}

func wantNoOp(t *testing.T, what string, s string) {
	t.Helper()
	if o, ok := impl.ReadOp(s); ok || !sameOp(o, impl.Op{}) {
		t.Errorf("%s: ReadOp(%q) is %v %v, not zero and false", what, s, o, ok)
	}
}

// wantReadAsTold tells whether a text is one of an op.
func wantReadAsTold(t *testing.T, what string, s string) bool {
	t.Helper()
	o, ok := oracleReadOp(s)
	if ok {
		wantRead(t, what, s, o)
	} else {
		wantNoOp(t, what, s)
	}
	return ok
}

func TestPromise16OpTexts(t *testing.T) {
	wantRead(t, "put", "1 1 1 1 5", putNumber(1, 1, 1, 5))
	wantRead(t, "delete ends with a blank", "2 7 1 3 ", delOp(1, 3, 7))
	wantRead(t, "each number at its place", "1 4 3 2 -10", putNumber(3, 2, 4, -10))
	wantRead(t, "the least numbers", "1 0 0 1 null", putOp(0, 1, 0, nullTree.value()))
	wantRead(t, "the least numbers", "2 0 0 1 ", delOp(0, 1, 0))
	wantRead(t, "the greatest numbers", "1 100 100 1000 []", putOp(100, 1000, 100, listOf().value()))
	wantRead(t, "the greatest numbers", "2 100 100 1000 ", delOp(100, 1000, 100))
	wantRead(t, "blanks within", `1 2 3 4 {" ":" a  b "}`, putOp(3, 4, 2, mapOf(" ", textTree(" a  b ")).value()))
	wantRead(t, "marks within", `1 2 3 4 "\"1\\"`, putOp(3, 4, 2, textTree(`"1\`).value()))
	wantRead(t, "the empty text", `1 2 3 4 ""`, putOp(3, 4, 2, textTree("").value()))
	longest := manyTexts(11, numberTree(7))
	s := "1 100 100 1000 " + longest.tidy()
	if len(s) != 315 {
		t.Fatal(len(s))
	}
	wantRead(t, "the longest", s, putOp(100, 1000, 100, longest.value()))
	wantNoOp(t, "one byte more", "1 100 100 1000 "+manyTexts(11, numberTree(77)).tidy())
}

// someOpTexts are texts of ops, each kind of document among them.
func someOpTexts() []string {
	return []string{
		"1 1 1 1 5", "1 10 20 30 -5", "1 100 100 1000 0", "1 0 0 1 null", "1 99 9 999 true", "1 5 50 500 false",
		`1 7 8 9 "a b"`, `1 7 8 9 ""`, `1 7 8 9 "\\\""`, "1 7 8 9 []", "1 7 8 9 {}", `1 7 8 9 [1,[2],{"a":3}]`, `1 7 8 9 {"a":1,"b":{"c":null}}`,
		"2 1 1 1 ", "2 0 0 1 ", "2 100 100 1000 ", "2 10 20 30 ", "2 99 9 999 ",
	}
}

func TestPromise16TextsOfOneByteMoreLessOrUnlike(t *testing.T) {
	others := "0123456789 -+.,\"\\a[]{}:_\n\t\x00\x7f\xff"
	taken := 0
	ask := func(what string, s string) {
		if wantReadAsTold(t, what, s) {
			taken++
		}
	}
	for _, s := range someOpTexts() {
		ask("as it is", s)
		for k := range len(s) + 1 {
			for _, c := range []byte(others) {
				ask("one byte more", s[:k]+string([]byte{c})+s[k:])
				if k < len(s) {
					ask("one byte unlike", s[:k]+string([]byte{c})+s[k+1:])
				}
			}
			ask("cut", s[:k])
			ask("the end alone", s[k:])
			if k < len(s) {
				ask("one byte less", s[:k]+s[k+1:])
			}
		}
	}
	if taken < 300 {
		t.Errorf("only %d are taken", taken)
	}
}

func TestPromise16TextsOfNumbersInOtherForms(t *testing.T) {
	parts := []string{"1", "7", "8", "9"}
	for k, part := range parts {
		for _, other := range []string{"", "0" + part, "00" + part, "+" + part, "-" + part, part + "_0", "0x" + part, part + ".0", part + "e0", " " + part, part + " ", part + "\n", "\t" + part, "1001", "101", "-1", "a", "٣", "18446744073709551617", "4294967303", strings.Repeat("9", 400), strings.Repeat("0", 400) + part} {
			made := append(append(append([]string{}, parts[:k]...), other), parts[k+1:]...)
			wantReadAsTold(t, "another form, put", strings.Join(made, " ")+" 5")
			made[0] = strings.Replace(made[0], "1", "2", 1)
			wantReadAsTold(t, "another form, delete", strings.Join(made, " ")+" ")
		}
	}
	for _, s := range []string{"01 7 8 9 5", "1 07 8 9 5", "1 7 08 9 5", "1 7 8 09 5", "1 7 8 9 05", "1 00 8 9 5", "1 7 00 9 5", "1 7 8 0 5", "2 7 8 09 ", "2 07 8 9 ", "1 7 8 9 -0", "0 7 8 9 5", "3 7 8 9 ", "3 7 8 9 5"} {
		wantNoOp(t, "needless noughts, or a number beyond", s)
	}
}

func TestPromise16TextsOfDocumentsInOtherForms(t *testing.T) {
	for _, s := range []string{
		" 5", "5 ", "\n5", "[ ]", "[1, 2]", "{ }", `{"a": 1}`, `{"b":1,"a":2}`, `{"a":1,"a":1}`, `"\/"`, "\"\\u0061\"", `"\u0022"`, "-0", "1000000001", "[1,]", "[", "", " ", "nul", "null ", "nullnull", "5 5", "'a'", "\"\n\"",
		"\"\x7f\"", `"` + strings.Repeat("x", 25) + `"`, nested(7, numberTree(1)).tidy(), zeros(80).tidy(), manyTexts(11, numberTree(77)).tidy(), strings.Repeat("[", 1000000), strings.Repeat(" ", 1000000) + "5",
	} {
		wantNoOp(t, "a document that is not told so", "1 7 8 9 "+s)
	}
	for _, s := range []string{"5", "null", `""`, "[]", " ", "\n", "2 7 8 9 "} {
		wantNoOp(t, "a document behind DoDel", "2 7 8 9 "+s)
	}
	wantNoOp(t, "none behind DoPut", "1 7 8 9 ")
	wantNoOp(t, "no blank behind", "1 7 8 9")
	wantNoOp(t, "no blank behind", "2 7 8 9")
	wantNoOp(t, "nothing", "")
	wantNoOp(t, "blanks", "    ")
	wantNoOp(t, "a million bytes", strings.Repeat("1 ", 500000))
}

// An op of each document comes back from its text.
func TestPromise16DrawnOpTexts(t *testing.T) {
	d := &dice{state: 162}
	for range 1500 {
		o := putOp(d.below(101), 1+d.below(1000), d.below(101), d.soundTree().value())
		wantRead(t, "drawn", opTextAsTold(o), o)
		wantReadAsTold(t, "drawn", opTextAsTold(o))
		o.Kind, o.Doc = impl.DoDel, impl.Value{}
		wantRead(t, "drawn", opTextAsTold(o), o)
	}
}

// Unlike ops have unlike texts: all with few numbers and few documents.
func TestPromise16UnlikeOpsHaveUnlikeTexts(t *testing.T) {
	ops := map[string]impl.Op{}
	for _, id := range []int{0, 1, 10, 11} {
		for _, session := range []int{0, 1, 10, 11} {
			for _, no := range []int{1, 10, 11, 111} {
				all := []impl.Op{delOp(session, no, id)}
				for _, n := range []int{0, 1, 10, -1} {
					all = append(all, putNumber(session, no, id, n))
				}
				for _, o := range all {
					s, ok := impl.OpText(o)
					if other, there := ops[s]; there || !ok {
						t.Errorf("%v and %v have the text %q", o, other, s)
					}
					ops[s] = o
				}
			}
		}
	}
	for s, o := range ops {
		wantRead(t, "one of many", s, o)
	}
}
