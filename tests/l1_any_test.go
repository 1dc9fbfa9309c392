package tests

import (
	"slices"
	"strconv"
	"strings"
	"testing"

	"loop.example/g00274/impl"
)

const least = -1 << 63
const greatest = 1<<63 - 1

// wantZeros asks each function that takes a value for its zero answer.
func wantZeros(t *testing.T, what string, v impl.Value) {
	t.Helper()
	if impl.GoodValue(v) {
		t.Errorf("%s: GoodValue", what)
	}
	if s, ok := impl.ValueText(v); ok || s != "" {
		t.Errorf("%s: ValueText is %q %v", what, s, ok)
	}
	if n, ok := impl.DeepOf(v); ok || n != 0 {
		t.Errorf("%s: DeepOf is %d %v", what, n, ok)
	}
	for _, k := range []int{least, -2, -1, 0, 1, 2, len(v.Nodes) - 1, len(v.Nodes), greatest} {
		wantNoNode(t, what, v, k)
	}
}

func wantNoNode(t *testing.T, what string, v impl.Value, k int) {
	t.Helper()
	if kids, ok := impl.KidsOf(v, k); ok || len(kids) != 0 {
		t.Errorf("%s: KidsOf %d is %v %v", what, k, kids, ok)
	}
	if sub, ok := impl.SubOf(v, k); ok || len(sub.Nodes) != 0 {
		t.Errorf("%s: SubOf %d is %v %v", what, k, sub, ok)
	}
}

func TestPromise19ValuesThatAreNotGood(t *testing.T) {
	for rule, v := range broken() {
		wantZeros(t, rule, v)
	}
	wantZeros(t, "the zero value", impl.Value{})
	wantZeros(t, "a million nodes", impl.Value{Nodes: make([]impl.Node, 1000000)})
	long := strings.Repeat("a", 1000000)
	wantZeros(t, "a long text", impl.Value{Nodes: []impl.Node{{Kind: impl.KindText, Text: long, Up: -1}}})
	wantZeros(t, "a long name", mapOf(long, numberTree(1)).value())
	wantZeros(t, "very deep", nested(79, numberTree(1)).value())
}

func TestPromise19AnyKindAndUp(t *testing.T) {
	numbers := []int{least, least + 1, -1000, -2, -1, 0, 1, 2, 3, 4, 5, 6, 7, 8, 9, 1000, greatest - 1, greatest}
	base := mustRead(t, `[[1],{"a":2},3]`)
	for k := range base.Nodes {
		for _, n := range numbers {
			for _, v := range []impl.Value{changed(base, k, func(x *impl.Node) { x.Kind = n }),
				changed(base, k, func(x *impl.Node) { x.Up = n }),
				changed(base, k, func(x *impl.Node) { x.Num = n })} {
				if want := oracleGood(v); impl.GoodValue(v) != want {
					t.Errorf("GoodValue is not %v: %v", want, v)
				} else if !want {
					wantZeros(t, "changed by "+strconv.Itoa(n), v)
				}
			}
		}
	}
}

func changed(v impl.Value, k int, change func(*impl.Node)) impl.Value {
	nodes := slices.Clone(v.Nodes)
	change(&nodes[k])
	return impl.Value{Nodes: nodes}
}

func TestPromise19NumbersOfNoNode(t *testing.T) {
	for _, text := range []string{"1", "[]", "[1,2]", `{"a":[1],"b":{}}`} {
		v := mustRead(t, text)
		for _, k := range []int{least, -1000, -2, -1, len(v.Nodes), len(v.Nodes) + 1, 80, 1000, greatest} {
			wantNoNode(t, text, v, k)
		}
	}
}

func TestPromise19AnyText(t *testing.T) {
	texts := []string{strings.Repeat("x", 1000000), strings.Repeat(" ", 1000000), strings.Repeat("[", 1000000), strings.Repeat("é", 12), "\xff\xfe"}
	for c := range 256 {
		if c < 32 || c > 126 {
			texts = append(texts, string([]byte{byte(c)}), string([]byte{'a', byte(c), 'b'}))
		}
	}
	for _, s := range texts {
		for _, r := range []string{s, quote(s), "[" + quote(s) + "]", "{" + quote(s) + ":1}", "1" + s + "1", `"\` + s, `"\u00` + s} {
			if v, ok := impl.ReadValue(r); ok || len(v.Nodes) != 0 {
				t.Errorf("ReadValue(%.20q) is %v %v", r, v, ok)
			}
			if tidy, ok := impl.TidyText(r); ok || tidy != "" {
				t.Errorf("TidyText(%.20q) is %q %v", r, tidy, ok)
			}
		}
		if v, ok := impl.TextOf(s); ok || len(v.Nodes) != 0 {
			t.Errorf("TextOf(%.20q) is %v %v", s, v, ok)
		}
	}
}

func TestPromise19EachBeginningAnswers(t *testing.T) {
	s := " {\"a\\u0041\\\"\" : [ -12 , null,\nfalse, true, {\"\":\"\\/\"} ] } "
	mustRead(t, s)
	for k := range len(s) - 1 {
		if v, ok := impl.ReadValue(s[:k]); ok || len(v.Nodes) != 0 {
			t.Errorf("ReadValue(%q) is %v %v", s[:k], v, ok)
		}
	}
}

func TestPromise19NumberOfTheRest(t *testing.T) {
	for _, n := range []int{1000000001, -1000000001, least, greatest} {
		if v := impl.NumberOf(n); !sameValue(v, impl.NumberOf(0)) || len(v.Nodes) != 1 {
			t.Errorf("NumberOf(%d) is %v", n, v)
		}
	}
}

// useAll calls each function that takes a value, and writes into all that it answers.
func useAll(v impl.Value) {
	impl.GoodValue(v)
	impl.ValueText(v)
	impl.DeepOf(v)
	for k := -1; k <= len(v.Nodes); k++ {
		kids, _ := impl.KidsOf(v, k)
		spoilNumbers(kids)
		sub, _ := impl.SubOf(v, k)
		spoilNodes(sub.Nodes)
	}
}

func spoilNumbers(l []int) {
	for k := range l {
		l[k] = -77
	}
	_ = append(l, -78)
}

func spoilNodes(l []impl.Node) {
	for k := range l {
		l[k] = impl.Node{Kind: 77, Text: "spoilt"}
	}
	_ = append(l, impl.Node{Kind: 78})
}

func TestPromise19ArgumentsStayAsTheyWere(t *testing.T) {
	all := broken()
	for _, s := range []string{"1", `"a"`, "[]", `{"a":[1,{"b":2}],"c":{}}`} {
		all[s] = mustRead(t, s)
	}
	for what, v := range all {
		// What lies behind the length must neither be read nor written.
		behind := []impl.Node{{Kind: impl.KindNumber, Num: 5}, {Kind: 99, Text: "behind", Up: 1}}
		memory := slices.Concat(v.Nodes, behind)
		before := slices.Clone(memory)
		arg := impl.Value{Nodes: memory[:len(v.Nodes)]}
		good := impl.GoodValue(v)
		useAll(arg)
		if !slices.Equal(memory, before) {
			t.Errorf("%s: written into: %v", what, memory)
		}
		if impl.GoodValue(arg) != good {
			t.Errorf("%s: what lies behind the length is read", what)
		}
	}
}

func TestPromise19WhatLiesBehindIsNotHandedOut(t *testing.T) {
	whole := mustRead(t, "[1,[2,3]]")
	arg := impl.Value{Nodes: whole.Nodes[:3]}
	if s, ok := impl.ValueText(arg); !ok || s != "[1,[]]" {
		t.Errorf("ValueText is %q %v", s, ok)
	}
	if kids, ok := impl.KidsOf(arg, 2); !ok || len(kids) != 0 {
		t.Errorf("KidsOf is %v %v", kids, ok)
	}
	if sub, ok := impl.SubOf(arg, 2); !ok || len(sub.Nodes) != 1 {
		t.Errorf("SubOf is %v %v", sub, ok)
	}
	sub, _ := impl.SubOf(arg, 0)
	for _, n := range sub.Nodes[len(sub.Nodes):cap(sub.Nodes)] {
		if n != (impl.Node{}) {
			t.Errorf("behind the answer lies %v", n)
		}
	}
	wantNoNode(t, "behind the length", arg, 3)
}

func TestPromise19AnswersShareNothing(t *testing.T) {
	text := `{"a":[1,{"b":2}],"c":{}}`
	calls := map[string]func() impl.Value{
		"ReadValue": func() impl.Value { v, _ := impl.ReadValue(text); return v },
		"NumberOf":  func() impl.Value { return impl.NumberOf(5) },
		"NumberOf none such": func() impl.Value {
			return impl.NumberOf(greatest)
		},
		"TextOf": func() impl.Value { v, _ := impl.TextOf("a"); return v },
	}
	v := mustRead(t, text)
	for k := range v.Nodes {
		calls["SubOf "+strconv.Itoa(k)] = func() impl.Value { x, _ := impl.SubOf(v, k); return x }
	}
	for what, call := range calls {
		first, second := call(), call()
		want := slices.Clone(second.Nodes)
		spoilNodes(first.Nodes)
		if !slices.Equal(second.Nodes, want) {
			t.Errorf("%s: two answers share memory", what)
		}
		if !slices.Equal(call().Nodes, want) {
			t.Errorf("%s: a later answer is another one", what)
		}
	}
	first, _ := impl.KidsOf(v, 0)
	second, _ := impl.KidsOf(v, 0)
	spoilNumbers(first)
	if third, _ := impl.KidsOf(v, 0); !slices.Equal(second, []int{1, 5}) || !slices.Equal(third, second) {
		t.Errorf("KidsOf: answers share memory: %v %v", second, third)
	}
}

func TestPromise19AnswersOfLaterChangedArguments(t *testing.T) {
	v := mustRead(t, "[1,[2]]")
	sub, _ := impl.SubOf(v, 1)
	whole, _ := impl.SubOf(v, 0)
	kids, _ := impl.KidsOf(v, 0)
	spoilNodes(v.Nodes)
	if !sameValue(sub, numberTree(1).value()) || !sameValue(whole, mustRead(t, "[1,[2]]")) || !slices.Equal(kids, []int{1, 2}) {
		t.Error("an answer changed with its argument", sub, whole, kids)
	}
}
