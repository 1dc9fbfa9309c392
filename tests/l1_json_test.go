package tests

import (
	"slices"
	"strconv"
	"strings"
	"testing"

	"loop.example/g00274/impl"
)

func TestConstants(t *testing.T) {
	got := []int{impl.MaxText, impl.MaxDeep, impl.MaxNodes, impl.MaxString,
		impl.KindNull, impl.KindFalse, impl.KindTrue, impl.KindNumber, impl.KindText, impl.KindList, impl.KindMap}
	if want := []int{300, 6, 80, 24, 1, 2, 3, 4, 5, 6, 7}; !slices.Equal(got, want) {
		t.Errorf("constants are %v, not %v", got, want)
	}
}

// wantValue asks that a value has this text, and that each comes back from the other.
func wantValue(t *testing.T, v impl.Value, text string) {
	t.Helper()
	if !impl.GoodValue(v) {
		t.Fatalf("not good: the value of %q", text)
	}
	if s, ok := impl.ValueText(v); !ok || s != text {
		t.Errorf("ValueText is %q %v, not %q", s, ok, text)
	}
	if r, ok := impl.ReadValue(text); !ok || !sameValue(r, v) {
		t.Errorf("ReadValue(%q) is %v %v, not %v", text, r, ok, v)
	}
	if s, ok := impl.TidyText(text); !ok || s != text {
		t.Errorf("TidyText(%q) is %q %v", text, s, ok)
	}
}

func TestPromise1EachKindComesBack(t *testing.T) {
	for text, x := range map[string]tree{
		"null":             {kind: impl.KindNull},
		"false":            {kind: impl.KindFalse},
		"true":             {kind: impl.KindTrue},
		"0":                numberTree(0),
		"9":                numberTree(9),
		"-10":              numberTree(-10),
		`""`:               textTree(""),
		`"a b"`:            textTree("a b"),
		`"\"\\/"`:          textTree(`"\/`),
		`" ~"`:             textTree(" ~"),
		"[]":               listOf(),
		"{}":               {kind: impl.KindMap},
		"[[],{},[1,2]]":    listOf(listOf(), tree{kind: impl.KindMap}, listOf(numberTree(1), numberTree(2))),
		`{"":0}`:           mapOf("", numberTree(0)),
		`{"\"\\/":"\\\""}`: mapOf(`"\/`, textTree(`\"`)),
	} {
		wantValue(t, x.value(), text)
	}
}

func TestPromise1NodesStandInOrder(t *testing.T) {
	text := `{"":{"x":[null,true]},"B":"b","a":[[false],-5],"aa":{}}`
	wantValue(t, impl.Value{Nodes: []impl.Node{
		{Kind: impl.KindMap, Up: -1},
		{Kind: impl.KindMap, Up: 0},
		{Kind: impl.KindList, Name: "x", Up: 1},
		{Kind: impl.KindNull, Up: 2},
		{Kind: impl.KindTrue, Up: 2},
		{Kind: impl.KindText, Text: "b", Name: "B", Up: 0},
		{Kind: impl.KindList, Name: "a", Up: 0},
		{Kind: impl.KindList, Up: 6},
		{Kind: impl.KindFalse, Up: 7},
		{Kind: impl.KindNumber, Num: -5, Up: 6},
		{Kind: impl.KindMap, Name: "aa", Up: 0},
	}}, text)
}

func TestPromise1ManyComeBack(t *testing.T) {
	d := &dice{state: 1}
	for range 3000 {
		x := d.soundTree()
		wantValue(t, x.value(), x.tidy())
	}
}

// loose tells a value with blanks, other names first and needless escapes.
func (d *dice) loose(x tree) string {
	if len(x.kids) == 0 && x.kind != impl.KindText {
		return d.blanks() + x.tidy() + d.blanks()
	}
	if x.kind == impl.KindText {
		return d.blanks() + d.looseText(x.text) + d.blanks()
	}
	parts := []string{}
	for k, kid := range x.kids {
		part := d.loose(kid)
		if x.kind == impl.KindMap {
			part = d.blanks() + d.looseText(x.names[k]) + d.blanks() + ":" + part
			parts = slices.Insert(parts, d.below(len(parts)+1), part)
		} else {
			parts = append(parts, part)
		}
	}
	s := strings.Join(parts, ",")
	if x.kind == impl.KindMap {
		return d.blanks() + "{" + s + "}" + d.blanks()
	}
	return d.blanks() + "[" + s + "]" + d.blanks()
}

func (d *dice) blanks() string {
	return []string{"", "", "", "", "", " ", "\n", " \n "}[d.below(8)]
}

func (d *dice) looseText(s string) string {
	out := ""
	for k := range len(s) {
		hex := strconv.FormatInt(int64(s[k])+65536, 16)[1:]
		way := d.below(8)
		switch {
		case way == 0:
			out += `\u` + hex
		case way == 1:
			out += `\u` + strings.ToUpper(hex)
		case s[k] == '"' || s[k] == '\\' || s[k] == '/' && way < 5:
			out += `\` + s[k:k+1]
		default:
			out += s[k : k+1]
		}
	}
	return `"` + out + `"`
}

func TestPromise1LooseTextsAreTidied(t *testing.T) {
	d := &dice{state: 2}
	for range 3000 {
		x := d.soundTree()
		s := d.loose(x)
		if len(s) > 300 {
			continue
		}
		if v, ok := impl.ReadValue(s); !ok || !sameValue(v, x.value()) {
			t.Fatalf("ReadValue(%q) is %v %v", s, v, ok)
		}
		tidy, ok := impl.TidyText(s)
		if !ok || tidy != x.tidy() {
			t.Fatalf("TidyText(%q) is %q %v, not %q", s, tidy, ok, x.tidy())
		}
		if again, ok := impl.TidyText(tidy); !ok || again != tidy {
			t.Fatalf("TidyText(%q) is %q %v", tidy, again, ok)
		}
	}
}

func TestPromise1WhatIsTidied(t *testing.T) {
	for s, want := range map[string]string{
		"\n null \n":                                     "null",
		" [ 1 ,\n2 , [ ] , { } ] ":                       "[1,2,[],{}]",
		"{ \"b\" : 1 , \"a\"\n:\n2 }":                    `{"a":2,"b":1}`,
		`{"b":[1,{"z":1,"y":2}],"a":{"d":3,"c":4},"":0}`: `{"":0,"a":{"c":4,"d":3},"b":[1,{"y":2,"z":1}]}`,
		`{"a":1,"B":2,"aa":3,"a\u0020":4,"~":5}`:         `{"B":2,"a":1,"a ":4,"aa":3,"~":5}`,
		`"\/\"\\\u002f\u0022\u005C\u007e\u0020\u0041"`:   `"/\"\\/\"\\~ A"`,
		`{"\u0062":1,"\u0061":2}`:                        `{"a":2,"b":1}`,
	} {
		if got, ok := impl.TidyText(s); !ok || got != want {
			t.Errorf("TidyText(%q) is %q %v, not %q", s, got, ok, want)
		}
	}
}

func TestPromise1TextsThatTellNoValue(t *testing.T) {
	for _, s := range []string{
		"", " ", "\n", "1 1", "1,", ",", ":", "[1]]", "{}{}", "\t1", "1\t", "1\r", "\r\n1", "[\t]", "\x001", "1\x00",
		"nul", "nulll", "Null", "NULL", "tru", "truefalse", "fals", "falsey", "nil", "x",
		"-", "--1", "+1", "-0", "-00", "00", "01", "-01", "1.0", "1.", ".5", "1e1", "1E1", "0x1", "1_0", "- 1", "1 0", "-a", "Infinity", "NaN",
		"1000000001", "-1000000001", "10000000000", "18446744073709551617", "9223372036854775808", "-9223372036854775809", strings.Repeat("9", 299),
		`"`, `"a`, `a"`, `"a""b"`, `'a'`, `"\"`, `"\`, "\"\n\"", "\"\t\"", "\"\x7f\"", "\"\x1f\"", "\"\x00\"", "\"\x80\"", "\"é\"",
		`"\a"`, `"\b"`, `"\f"`, `"\n"`, `"\r"`, `"\t"`, `"\'"`, `"\U0041"`, `"\x41"`, `"\ "`,
		`"\u"`, `"\u004"`, `"\u41"`, `"\u004g"`, `"\u004G"`, `"\u004:"`, `"\u004@"`, "\"\\u004`\"", `"\u004/"`, `"\u 041"`, `"\u+041"`, `"\u001f"`, `"\u000a"`, `"\u0000"`, `"\u007f"`, `"\u0080"`, `"\u0141"`, `"\u1041"`, `"\uFF41"`, `"\uD83D\uDE00"`, `"\u00`, `"\u0041`,
		"[", "]", "[1", "[1,", "[1,]", "[,]", "[,1]", "[1,,2]", "[1 2]", "[1:2]", "[1}", `["a":1]`, "(1)",
		"{", "}", "{]", `{"a"}`, `{"a":}`, `{"a":1`, `{"a":1,`, `{"a":1,}`, "{,}", `{,"a":1}`, `{"a":1,,"b":2}`, `{"a" 1}`, `{"a"::1}`, `{"a",1}`, `{"a":1 "b":2}`, `{"a":1;"b":2}`,
		"{a:1}", "{1:2}", "{null:1}", `{[]:1}`, `{"a":1]`, `{:1}`, `{"a`, `{"\a":1}`, "{\"\x7f\":1}",
		`{"a":1,"a":1}`, `{"a":1,"\u0061":2}`, `{"":1,"":2}`, `{"a":1,"b":2,"a":3}`, `[{"x":{"b":0,"a":1,"b":2}}]`,
	} {
		if v, ok := impl.ReadValue(s); ok || len(v.Nodes) != 0 {
			t.Errorf("ReadValue(%q) is %v %v", s, v, ok)
		}
		if got, ok := impl.TidyText(s); ok || got != "" {
			t.Errorf("TidyText(%q) is %q %v", s, got, ok)
		}
	}
}

func TestNamesMayBeAlikeInOtherMaps(t *testing.T) {
	wantValue(t, mapOf("a", mapOf("a", listOf(mapOf("a", numberTree(1)), mapOf("a", numberTree(2))))).value(),
		`{"a":{"a":[{"a":1},{"a":2}]}}`)
}

func TestKidsOf(t *testing.T) {
	v := mustRead(t, `{"a":[1,[2,3],{"x":4}],"b":{},"c":5}`)
	for k, want := range [][]int{{1, 8, 9}, {2, 3, 6}, nil, {4, 5}, nil, nil, {7}, nil, nil, nil} {
		if got, ok := impl.KidsOf(v, k); !ok || !slices.Equal(got, want) {
			t.Errorf("KidsOf %d is %v %v, not %v", k, got, ok, want)
		}
	}
}

func TestSubOf(t *testing.T) {
	text := `{"a":[1,[2,3],{"x":{"y":4}}],"b":{},"c":"5"}`
	v := mustRead(t, text)
	for k, want := range []string{text, `[1,[2,3],{"x":{"y":4}}]`, "1", "[2,3]", "2", "3", `{"x":{"y":4}}`, `{"y":4}`, "4", "{}", `"5"`} {
		sub, ok := impl.SubOf(v, k)
		if !ok || !sameValue(sub, mustRead(t, want)) {
			t.Errorf("SubOf %d is %v %v, not that of %s", k, sub, ok, want)
		}
	}
}

func TestDeepOf(t *testing.T) {
	for text, want := range map[string]int{
		"1": 0, `"a"`: 0, "null": 0, "[]": 1, "{}": 1, "[1,2]": 1, "[[],[]]": 2, `{"a":[1],"b":2}`: 2,
		"[[[]],[],1]": 3, `[1,{"a":{"b":[]}},[2]]`: 4, "[[[[[[1]]]]]]": 6,
	} {
		if got, ok := impl.DeepOf(mustRead(t, text)); !ok || got != want {
			t.Errorf("DeepOf %s is %d %v, not %d", text, got, ok, want)
		}
	}
}

func TestNumberOfAndTextOf(t *testing.T) {
	for _, n := range []int{0, 1, -1, 1000000000, -1000000000} {
		wantValue(t, impl.NumberOf(n), strconv.Itoa(n))
	}
	for _, s := range []string{"", "a", " ~", `"\/`, strings.Repeat(`"`, 24)} {
		v, ok := impl.TextOf(s)
		if !ok {
			t.Errorf("TextOf(%q) tells none", s)
		}
		wantValue(t, v, quote(s))
	}
}
