package tests

import (
	"slices"
	"strings"
	"testing"

	"loop.example/g00274/impl"
)

// wantNoPlace asks each function of the chapter that takes a value for its zero answer.
func wantNoPlace(t *testing.T, what string, v impl.Value) {
	t.Helper()
	one := impl.NumberOf(1)
	for _, path := range []string{"", "/", "/a", "/0", "/1", "/a/0", "a", "/~", strings.Repeat("/", 61)} {
		if got, ok := impl.GetAt(v, path); ok || len(got.Nodes) != 0 {
			t.Errorf("%s: GetAt(%q) is %v %v", what, path, got, ok)
		}
		if got, ok := impl.RemoveAt(v, path); ok || len(got.Nodes) != 0 {
			t.Errorf("%s: RemoveAt(%q) is %v %v", what, path, got, ok)
		}
		if has, ok := impl.HasAt(v, path); ok || has {
			t.Errorf("%s: HasAt(%q) is %v %v", what, path, has, ok)
		}
		if got, ok := impl.SetAt(v, path, one); ok || len(got.Nodes) != 0 {
			t.Errorf("%s: SetAt(%q) is %v %v", what, path, got, ok)
		}
	}
	if paths, ok := impl.PathsIn(v); ok || len(paths) != 0 {
		t.Errorf("%s: PathsIn is %q %v", what, paths, ok)
	}
	good := mustRead(t, `{"a":[1],"b":2}`)
	for _, path := range []string{"", "/a", "/a/0", "/a/1", "/c", "/b", "/d/e", "a"} {
		wantNoSet(t, good, path, v)
		wantNoSet(t, v, path, v)
	}
}

func TestPromise19PathsInValuesThatAreNotGood(t *testing.T) {
	for what, v := range badValues() {
		wantNoPlace(t, what, v)
	}
}

// A part with a name, or one that is told as a part, would fit at its place; but it is no good value.
func TestPromise19PartsThatAreNoWholeValue(t *testing.T) {
	v := mustRead(t, `{"a":[1],"b":2}`)
	for _, x := range []impl.Value{
		{Nodes: []impl.Node{{Kind: impl.KindNumber, Name: "b", Up: -1}}},
		{Nodes: []impl.Node{{Kind: impl.KindNumber, Up: 0}}},
		{Nodes: []impl.Node{{Kind: impl.KindNumber}}},
		{Nodes: []impl.Node{{Kind: impl.KindNumber, Up: -2}}},
		{},
	} {
		for _, path := range []string{"", "/a", "/b", "/c", "/a/0", "/a/1"} {
			wantNoSet(t, v, path, x)
		}
	}
}

func TestPromise19PathsOfAnyKindAndUp(t *testing.T) {
	base := mustRead(t, `[[1],{"a":2},3]`)
	for k := range base.Nodes {
		for _, n := range []int{least, -1000, -2, -1, 0, 1, 2, 3, 4, 5, 6, 7, 8, 9, 1000, greatest} {
			for _, v := range []impl.Value{changed(base, k, func(x *impl.Node) { x.Kind = n }),
				changed(base, k, func(x *impl.Node) { x.Up = n }),
				changed(base, k, func(x *impl.Node) { x.Num = n })} {
				paths, ok := impl.PathsIn(v)
				if want := oracleGood(v); ok != want {
					t.Errorf("PathsIn is %q %v: %v", paths, ok, v)
				} else if !want {
					wantNoPlace(t, "changed", v)
				}
			}
		}
	}
}

func TestPromise19AnyTextAsAPath(t *testing.T) {
	for c := range 256 {
		s := string([]byte{byte(c)})
		wantNoPath(t, strings.Repeat(s, 61))
		wantNoPath(t, "/"+strings.Repeat(s, 60))
		wantNoText(t, strings.Repeat(s, 25))
		if c%16 == 15 {
			wantNoPath(t, strings.Repeat(s, 1000000))
			wantNoText(t, strings.Repeat(s, 1000000))
		}
	}
	wantNoText(t, make([]string, 1000000)...)
	wantNoText(t, slices.Repeat([]string{"a"}, 1000000)...)
	wantNoText(t, "a", "\x00")
	wantNoText(t, "\xff", "a")
}

func TestPromise19PathsLeaveArgumentsAsTheyWere(t *testing.T) {
	all := broken()
	for _, s := range []string{"1", `"a"`, "[]", `{"a":[1,{"b":2}],"c":{}}`, `[[1],[2]]`} {
		all[s] = mustRead(t, s)
	}
	behind := []impl.Node{{Kind: impl.KindNumber, Num: 5}, {Kind: 99, Text: "behind", Up: 1}}
	for what, v := range all {
		memory := slices.Concat(v.Nodes, behind)
		before := slices.Clone(memory)
		arg := impl.Value{Nodes: memory[:len(v.Nodes)]}
		part := slices.Concat(mustRead(t, "[1,[2]]").Nodes, behind)
		partBefore := slices.Clone(part)
		x := impl.Value{Nodes: part[:4]}
		for _, path := range []string{"", "/", "/a", "/a/1", "/a/1/b", "/a/2", "/c", "/c/x", "/d", "/0", "/0/0", "/1", "/2", "/~"} {
			wantSameAt(t, what, arg, v, path, x)
		}
		paths, ok := impl.PathsIn(arg)
		if want, wantOk := impl.PathsIn(v); !slices.Equal(paths, want) || ok != wantOk {
			t.Errorf("%s: PathsIn reads what lies behind the length", what)
		}
		if !slices.Equal(memory, before) || !slices.Equal(part, partBefore) {
			t.Errorf("%s: written into: %v %v", what, memory, part)
		}
	}
}

// wantSameAt asks for the same answers with and without memory behind the length, and writes into them.
func wantSameAt(t *testing.T, what string, arg impl.Value, v impl.Value, path string, x impl.Value) {
	t.Helper()
	impl.HasAt(arg, path)
	for _, call := range []func(impl.Value) (impl.Value, bool){
		func(v impl.Value) (impl.Value, bool) { return impl.GetAt(v, path) },
		func(v impl.Value) (impl.Value, bool) { return impl.RemoveAt(v, path) },
		func(v impl.Value) (impl.Value, bool) { return impl.SetAt(v, path, x) },
		func(v impl.Value) (impl.Value, bool) { return impl.SetAt(x, path, v) },
	} {
		got, ok := call(arg)
		want, wantOk := call(v)
		if ok != wantOk || !sameValue(got, want) {
			t.Errorf("%s: at %q it is %v %v, not %v %v", what, path, got, ok, want, wantOk)
		}
		wantNothingBehind(t, what, got.Nodes)
		spoilNodes(got.Nodes)
	}
}

func wantNothingBehind(t *testing.T, what string, l []impl.Node) {
	t.Helper()
	for _, n := range l[len(l):cap(l)] {
		if n != (impl.Node{}) {
			t.Errorf("%s: behind the answer lies %v", what, n)
		}
	}
}

func TestPromise19PathAnswersShareNothing(t *testing.T) {
	v, x := mustRead(t, `{"a":[1,{"b":2}],"c":{}}`), mustRead(t, `[7,[8]]`)
	for _, path := range []string{"", "/a", "/a/0", "/a/1", "/a/1/b", "/a/2", "/b", "/c", "/c/d"} {
		for what, call := range map[string]func() (impl.Value, bool){
			"GetAt":    func() (impl.Value, bool) { return impl.GetAt(v, path) },
			"SetAt":    func() (impl.Value, bool) { return impl.SetAt(v, path, x) },
			"RemoveAt": func() (impl.Value, bool) { return impl.RemoveAt(v, path) },
		} {
			first, _ := call()
			second, ok := call()
			want := slices.Clone(second.Nodes)
			spoilNodes(first.Nodes)
			if third, thirdOk := call(); !slices.Equal(second.Nodes, want) || !slices.Equal(third.Nodes, want) || ok != thirdOk {
				t.Errorf("%s at %q: answers share memory: %v %v", what, path, second, third)
			}
		}
	}
	if !sameValue(v, mustRead(t, `{"a":[1,{"b":2}],"c":{}}`)) || !sameValue(x, mustRead(t, `[7,[8]]`)) {
		t.Error("an argument changed with an answer", v, x)
	}
}

func TestPromise19PathAnswersOfLaterChangedArguments(t *testing.T) {
	v, x := mustRead(t, `{"a":[1,{"b":2}],"c":{}}`), mustRead(t, `[7,[8]]`)
	whole, _ := impl.GetAt(v, "")
	part, _ := impl.GetAt(v, "/a")
	set, _ := impl.SetAt(v, "/a/2", x)
	over, _ := impl.SetAt(v, "", x)
	removed, _ := impl.RemoveAt(v, "/c")
	spoilNodes(v.Nodes)
	spoilNodes(x.Nodes)
	got := textsOf(t, []impl.Value{whole, part, set, over, removed})
	want := []string{`{"a":[1,{"b":2}],"c":{}}`, `[1,{"b":2}]`, `{"a":[1,{"b":2},[7,[8]]],"c":{}}`, `[7,[8]]`, `{"a":[1,{"b":2}]}`}
	if !slices.Equal(got, want) {
		t.Errorf("answers changed with their arguments: %q", got)
	}
}

func TestPromise19ListsOfTextsShareNothing(t *testing.T) {
	v := mustRead(t, `{"a":[1]}`)
	for what, call := range map[string]func() ([]string, bool){
		"PathOf":  func() ([]string, bool) { return impl.PathOf("/a/b~1c") },
		"PathsIn": func() ([]string, bool) { return impl.PathsIn(v) },
	} {
		first, _ := call()
		second, _ := call()
		want := slices.Clone(second)
		for k := range first {
			first[k] = "spoilt"
		}
		_ = append(first, "behind")
		if third, ok := call(); !ok || !slices.Equal(second, want) || !slices.Equal(third, want) {
			t.Errorf("%s: answers share memory: %q %q", what, second, third)
		}
	}
	memory := []string{"a", "b/c", "behind"}
	if s, ok := impl.PathText(memory[:2]); !ok || s != "/a/b~1c" || !slices.Equal(memory, []string{"a", "b/c", "behind"}) {
		t.Errorf("PathText is %q %v, its names are %q", s, ok, memory)
	}
}
