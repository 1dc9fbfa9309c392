package tests

import (
	"regexp"
	"slices"
	"strconv"
	"strings"
	"testing"

	"loop.example/g00274/impl"
)

var pathForm = regexp.MustCompile(`^(/([ -.0-}]|~0|~1)*)*$`)

// oraclePath reads a path by its form, and each name by a table.
func oraclePath(s string) ([]string, bool) {
	if len(s) > 60 || !pathForm.MatchString(s) || strings.HasSuffix(s, "\n") {
		return nil, false
	}
	if s == "" {
		return nil, true
	}
	names := strings.Split(s[1:], "/")
	for k, name := range names {
		names[k] = strings.NewReplacer("~0", "~", "~1", "/").Replace(name)
		if len(names[k]) > 24 {
			return nil, false
		}
	}
	return names, true
}

func oraclePathText(names []string) string {
	s := ""
	for _, name := range names {
		s += "/" + strings.NewReplacer("~", "~0", "/", "~1").Replace(name)
	}
	return s
}

// partAt tells where among its parts a tree has the one of that name.
func (x tree) partAt(name string) (int, bool) {
	if x.kind == impl.KindMap {
		k := slices.Index(x.names, name)
		return k, k >= 0
	}
	for k := range x.kids {
		if strconv.Itoa(k) == name {
			return k, true
		}
	}
	return 0, false
}

func (x tree) at(names []string) (tree, bool) {
	if len(names) == 0 {
		return x, true
	}
	k, ok := x.partAt(names[0])
	if !ok {
		return tree{}, false
	}
	return x.kids[k].at(names[1:])
}

func (x tree) set(names []string, y tree) (tree, bool) {
	if len(names) == 0 {
		return y, true
	}
	x.kids, x.names = slices.Clone(x.kids), slices.Clone(x.names)
	if k, ok := x.partAt(names[0]); ok {
		kid, ok := x.kids[k].set(names[1:], y)
		x.kids[k] = kid
		return x, ok
	}
	if len(names) > 1 {
		return x, false
	}
	if x.kind == impl.KindMap {
		k, _ := slices.BinarySearch(x.names, names[0])
		x.names = slices.Insert(x.names, k, names[0])
		x.kids = slices.Insert(x.kids, k, y)
		return x, true
	}
	x.kids = append(x.kids, y)
	return x, x.kind == impl.KindList && names[0] == strconv.Itoa(len(x.kids)-1)
}

func (x tree) without(names []string) (tree, bool) {
	if len(names) == 0 {
		return x, false
	}
	k, ok := x.partAt(names[0])
	if !ok {
		return x, false
	}
	x.kids, x.names = slices.Clone(x.kids), slices.Clone(x.names)
	if len(names) > 1 {
		x.kids[k], ok = x.kids[k].without(names[1:])
		return x, ok
	}
	x.kids = slices.Delete(x.kids, k, k+1)
	if x.kind == impl.KindMap {
		x.names = slices.Delete(x.names, k, k+1)
	}
	return x, true
}

// places tells the names that lead to each node, in the order of the nodes.
func (x tree) places() [][]string {
	all := [][]string{{}}
	for k, kid := range x.kids {
		name := strconv.Itoa(k)
		if x.kind == impl.KindMap {
			name = x.names[k]
		}
		for _, inner := range kid.places() {
			all = append(all, slices.Concat([]string{name}, inner))
		}
	}
	return all
}

// broadTree tells trees that have some nodes to be found.
func (d *dice) broadTree() tree {
	for {
		if x := d.soundTree(); x.size() > 3 {
			return x
		}
	}
}

func wantPath(t *testing.T, path string, names ...string) {
	t.Helper()
	if got, ok := impl.PathOf(path); !ok || !slices.Equal(got, names) {
		t.Errorf("PathOf(%q) is %q %v, not %q", path, got, ok, names)
	}
	if got, ok := impl.PathText(names); !ok || got != path {
		t.Errorf("PathText(%q) is %q %v, not %q", names, got, ok, path)
	}
}

func wantNoPath(t *testing.T, path string) {
	t.Helper()
	if got, ok := impl.PathOf(path); ok || len(got) != 0 {
		t.Errorf("PathOf(%.70q) is %q %v", path, got, ok)
	}
	v := mustRead(t, `{"":{"a":1},"a":[0]}`)
	if has, ok := impl.HasAt(v, path); ok || has {
		t.Errorf("HasAt(%.70q) is %v %v", path, has, ok)
	}
	wantNothingAt(t, v, path)
	wantNoSet(t, v, path, impl.NumberOf(1))
}

func wantNothingAt(t *testing.T, v impl.Value, path string) {
	t.Helper()
	if got, ok := impl.GetAt(v, path); ok || len(got.Nodes) != 0 {
		t.Errorf("GetAt(%v, %.70q) is %v %v", v, path, got, ok)
	}
	if got, ok := impl.RemoveAt(v, path); ok || len(got.Nodes) != 0 {
		t.Errorf("RemoveAt(%v, %.70q) is %v %v", v, path, got, ok)
	}
}

func wantNoSet(t *testing.T, v impl.Value, path string, x impl.Value) {
	t.Helper()
	if got, ok := impl.SetAt(v, path, x); ok || len(got.Nodes) != 0 {
		t.Errorf("SetAt(%v, %.70q, %v) is %v %v", v, path, x, got, ok)
	}
}

func wantNoText(t *testing.T, names ...string) {
	t.Helper()
	if got, ok := impl.PathText(names); ok || got != "" {
		t.Errorf("PathText(%.30q) is %q %v", names, got, ok)
	}
}

func TestPromise3PathsAndTheirNames(t *testing.T) {
	if impl.MaxPath != 60 {
		t.Error("MaxPath is", impl.MaxPath)
	}
	wantPath(t, "")
	wantPath(t, "/", "")
	wantPath(t, "//", "", "")
	wantPath(t, "/a", "a")
	wantPath(t, "/a/", "a", "")
	wantPath(t, "//a", "", "a")
	wantPath(t, "/a/b/c", "a", "b", "c")
	wantPath(t, "/0/10/007", "0", "10", "007")
	wantPath(t, "/a b/ / c", "a b", " ", " c")
	wantPath(t, "/~0", "~")
	wantPath(t, "/~1", "/")
	wantPath(t, "/~01", "~1")
	wantPath(t, "/~00", "~0")
	wantPath(t, "/~10", "/0")
	wantPath(t, "/~11", "/1")
	wantPath(t, "/~0~1", "~/")
	wantPath(t, "/~1~0", "/~")
	wantPath(t, "/~0~0~1~1", "~~//")
	wantPath(t, "/~01~10", "~1/0")
	wantPath(t, "/a~1b/c~0d", "a/b", "c~d")
	wantPath(t, "/~1/~0/", "/", "~", "")
	wantPath(t, `/"/\/'`, `"`, `\`, `'`)
	if names, ok := impl.PathOf(""); !ok || len(names) != 0 {
		t.Error("the empty path has names", names, ok)
	}
}

func TestPromise3TextsThatAreNoPath(t *testing.T) {
	for _, s := range []string{"a", "a/b", " ", " /a", "~0", "~1a", "0", "~", "/~", "/~2", "/a~", "/~/", "/~/a", "/a/~", "/~a", "/~~", "/~~0", "/~~1", "/~0~", "/~1~", "/~01~2", "/~ 0", "/a/b~/c", "/\n", "\n", "/a\n", "/é"} {
		wantNoPath(t, s)
	}
}

func TestPromise3BytesOfPaths(t *testing.T) {
	for c := range 256 {
		s := string([]byte{byte(c)})
		switch {
		case c < 32 || c > 126:
			for _, path := range []string{s, "/" + s, "/a" + s, "/" + s + "a", "/a/" + s + "/b"} {
				wantNoPath(t, path)
			}
			wantNoText(t, s)
			wantNoText(t, "a", "b"+s)
			wantNoText(t, s+"b", "a")
		case s != "/" && s != "~":
			wantPath(t, "/"+s, s)
			wantPath(t, "/a/b"+s+"c/d", "a", "b"+s+"c", "d")
			wantNoPath(t, s)
		}
	}
}

func TestPromise3NamesAtTheirLimit(t *testing.T) {
	most := strings.Repeat("n", 24)
	wantPath(t, "/"+most, most)
	wantPath(t, "/a/"+most+"/b", "a", most, "b")
	wantPath(t, "/"+most+"/"+most, most, most)
	wantNoPath(t, "/"+most+"n")
	wantNoPath(t, "/a/"+most+"n/b")
	wantNoPath(t, "/"+most+"/"+most+"n")
	wantNoText(t, most+"n")
	wantNoText(t, "a", most+"n", "b")
	// A name's own bytes count, not those by which they are written.
	for _, mark := range []string{"~", "/"} {
		written := map[string]string{"~": "~0", "/": "~1"}[mark]
		wantPath(t, "/"+strings.Repeat(written, 24), strings.Repeat(mark, 24))
		wantPath(t, "/"+most[1:]+written, most[1:]+mark)
		wantNoPath(t, "/"+strings.Repeat(written, 25))
		wantNoPath(t, "/"+most+written)
		wantNoText(t, strings.Repeat(mark, 25))
	}
}

func TestPromise3PathsAtTheirLimit(t *testing.T) {
	twenty := strings.Repeat("n", 19)
	wantPath(t, strings.Repeat("/"+twenty, 3), twenty, twenty, twenty)
	wantPath(t, strings.Repeat("/", 60), make([]string, 60)...)
	wantPath(t, strings.Repeat("/a", 30), slices.Repeat([]string{"a"}, 30)...)
	wantPath(t, "/"+strings.Repeat("~0", 24)+"/"+strings.Repeat("~1", 5), strings.Repeat("~", 24), strings.Repeat("/", 5))
	for _, names := range [][]string{
		{twenty, twenty, twenty + "n"},
		{twenty, twenty, twenty, ""},
		make([]string, 61),
		slices.Repeat([]string{"a"}, 31),
		{strings.Repeat("~", 24), strings.Repeat("/", 5) + "n"},
	} {
		wantNoPath(t, oraclePathText(names))
		wantNoText(t, names...)
	}
}

func TestPromise3PathsAgainstTheirForm(t *testing.T) {
	d := &dice{state: 31}
	good := 0
	for range 60000 {
		s := ""
		for range d.below(64) {
			s += []string{"/", "/", "~0", "~1", "a", "b", "0", "1", " ", "}"}[d.below(10)]
		}
		if d.below(3) == 0 {
			s = d.scribble(s)
		}
		if d.below(3) > 0 {
			s = "/" + s[:min(len(s), d.below(66))]
		}
		want, wantOk := oraclePath(s)
		names, ok := impl.PathOf(s)
		if ok != wantOk || !slices.Equal(names, want) {
			t.Fatalf("PathOf(%q) is %q %v, not %q %v", s, names, ok, want, wantOk)
		}
		if !ok {
			continue
		}
		good++
		if text, ok := impl.PathText(names); !ok || text != s {
			t.Fatalf("PathText(%q) is %q %v, not %q", names, text, ok, s)
		}
	}
	if good < 6000 || good > 54000 {
		t.Errorf("%d of 60000 are paths: that tells little", good)
	}
}

func TestPromise3NamesComeBack(t *testing.T) {
	d := &dice{state: 32}
	good := 0
	for range 40000 {
		var names []string
		for range d.below(8) {
			names = append(names, d.text(26))
			if d.below(2) == 0 {
				names[len(names)-1] = d.text(3)
			}
		}
		want := oraclePathText(names)
		text, ok := impl.PathText(names)
		_, wantOk := oraclePath(want)
		if ok != wantOk || ok && text != want || !ok && text != "" {
			t.Fatalf("PathText(%q) is %q %v, not %q %v", names, text, ok, want, wantOk)
		}
		if !ok {
			continue
		}
		good++
		if got, ok := impl.PathOf(text); !ok || !slices.Equal(got, names) {
			t.Fatalf("PathOf(%q) is %q %v, not %q", text, got, ok, names)
		}
	}
	if good < 4000 || good > 36000 {
		t.Errorf("%d of 40000 are paths: that tells little", good)
	}
}

// wantAt asks for what a path leads to, as a text; the empty text stands for nothing.
func wantAt(t *testing.T, v impl.Value, path string, want string) {
	t.Helper()
	if has, ok := impl.HasAt(v, path); !ok || has != (want != "") {
		t.Errorf("HasAt(%q) is %v %v", path, has, ok)
	}
	if want == "" {
		wantNothingAt(t, v, path)
		return
	}
	if got, ok := impl.GetAt(v, path); !ok || !sameValue(got, mustRead(t, want)) {
		t.Errorf("GetAt(%q) is %v %v, not %s", path, got, ok, want)
	}
}

func TestPromise3WhatAPathLeadsTo(t *testing.T) {
	text := `{"":{"":"x"},"/":1,"0":[10,{"c":true,"d":[]},[[7]]],"00":2,"a/b":3,"a~b":4,"~1":5,"~0":6}`
	v := mustRead(t, text)
	for path, want := range map[string]string{
		"":         text,
		"/":        `{"":"x"}`,
		"//":       `"x"`,
		"///":      "",
		"//a":      "",
		"/~1":      "1",
		"/0":       `[10,{"c":true,"d":[]},[[7]]]`,
		"/0/0":     "10",
		"/0/1":     `{"c":true,"d":[]}`,
		"/0/1/c":   "true",
		"/0/1/d":   "[]",
		"/0/1/d/0": "",
		"/0/1/e":   "",
		"/0/1/0":   "",
		"/0/1/":    "",
		"/0/2":     "[[7]]",
		"/0/2/0":   "[7]",
		"/0/2/0/0": "7",
		"/0/2/0/1": "",
		"/0/3":     "",
		"/00":      "2",
		"/00/0":    "",
		"/000":     "",
		"/1":       "",
		"/a~1b":    "3",
		"/a/b":     "",
		"/a~0b":    "4",
		"/~01":     "5",
		"/~00":     "6",
		"/~0":      "",
		"/~0/1":    "",
		"/ ":       "",
		"/0 ":      "",
		"/0/0/":    "",
		"/0/0/0":   "",
	} {
		wantAt(t, v, path, want)
	}
}

func TestPromise3NumbersInAListsPath(t *testing.T) {
	v := mustRead(t, `[0,1,2,3,4,5,6,7,8,9,10,11]`)
	for k := range 12 {
		wantAt(t, v, "/"+strconv.Itoa(k), strconv.Itoa(k))
	}
	for _, name := range []string{"12", "13", "100", "00", "01", "001", "011", "010", "+1", "-1", "-0", "+0", "--1", "", " ", " 1", "1 ", "1 1", "0x1", "1.", "1.0", "1e0", "1_0", "a", "-", "A", ":", "~1", "~0",
		"4294967296", "4294967297", "9223372036854775807", "9223372036854775808", "18446744073709551616", "18446744073709551617", "999999999999999999999999", "340282366920938463463374"} {
		wantAt(t, v, "/"+name, "")
		if name != "12" {
			wantNoSet(t, v, "/"+name, impl.NumberOf(1))
		}
	}
	wantAt(t, mustRead(t, "[]"), "/0", "")
}

func TestPromise3ValuesWithoutParts(t *testing.T) {
	for _, text := range []string{"null", "false", "true", "5", `"0"`, `""`, "[]", "{}"} {
		v := mustRead(t, text)
		wantAt(t, v, "", text)
		for _, path := range []string{"/", "/0", "/a", "/0/0", "//"} {
			if has, ok := impl.HasAt(v, path); !ok || has {
				t.Errorf("HasAt(%s, %q) is %v %v", text, path, has, ok)
			}
			wantNothingAt(t, v, path)
			if text != "[]" && text != "{}" {
				wantNoSet(t, v, path, impl.NumberOf(1))
			}
		}
		if paths, ok := impl.PathsIn(v); !ok || !slices.Equal(paths, []string{""}) {
			t.Errorf("PathsIn(%s) is %q %v", text, paths, ok)
		}
	}
}

func TestPromise3PathsInTheOrderOfNodes(t *testing.T) {
	v := mustRead(t, `{"":[[],{"~":{"/":[1,2]}}],"a b":[3,[4,[5]],6],"c":{"0":{"0":7}}}`)
	want := []string{"", "/", "//0", "//1", "//1/~0", "//1/~0/~1", "//1/~0/~1/0", "//1/~0/~1/1",
		"/a b", "/a b/0", "/a b/1", "/a b/1/0", "/a b/1/1", "/a b/1/1/0", "/a b/2", "/c", "/c/0", "/c/0/0"}
	if got, ok := impl.PathsIn(v); !ok || !slices.Equal(got, want) {
		t.Errorf("PathsIn is %q %v", got, ok)
	}
	many := listOf(slices.Repeat([]tree{numberTree(1)}, 79)...).value()
	got, ok := impl.PathsIn(many)
	if !ok || len(got) != 80 || got[1] != "/0" || got[11] != "/10" || got[79] != "/78" {
		t.Errorf("PathsIn of a long list is %q %v", got, ok)
	}
}

func TestPromise3PathsInAtTheirLimit(t *testing.T) {
	nineteen := strings.Repeat("n", 19)
	inner := func(name string, rest tree) tree {
		return mapOf(nineteen, mapOf(nineteen, mapOf(name, rest)))
	}
	for _, x := range []tree{
		inner(nineteen, numberTree(1)),
		inner(nineteen[2:], listOf(numberTree(1))),
		inner(nineteen[3:], listOf(slices.Repeat([]tree{numberTree(1)}, 10)...)),
		inner(strings.Repeat("~", 9)+"n", numberTree(1)),
		mapOf(strings.Repeat("~", 24), mapOf(strings.Repeat("/", 5), numberTree(1))),
		inner(nineteen, listOf()),
	} {
		got, ok := impl.PathsIn(x.value())
		if !ok || len(got) != x.size() || len(got[len(got)-1]) > 60 {
			t.Errorf("PathsIn of %s is %q %v", x.tidy(), got, ok)
		}
		for k, path := range got {
			want, _ := impl.SubOf(x.value(), k)
			if at, ok := impl.GetAt(x.value(), path); !ok || !sameValue(at, want) {
				t.Errorf("GetAt(%q) is %v %v", path, at, ok)
			}
		}
	}
	for _, x := range []tree{
		inner(nineteen+"n", numberTree(1)),
		inner(nineteen, mapOf("", numberTree(1))),
		inner(nineteen, listOf(numberTree(1))),
		inner(nineteen[1:], listOf(numberTree(1))),
		inner(nineteen[2:], listOf(slices.Repeat([]tree{numberTree(1)}, 11)...)),
		inner(strings.Repeat("/", 10), numberTree(1)),
		mapOf(strings.Repeat("~", 24), mapOf(strings.Repeat("/", 6), numberTree(1))),
		listOf(inner(nineteen[1:], numberTree(1)), numberTree(2)),
	} {
		if !impl.GoodValue(x.value()) {
			t.Errorf("not good: %s", x.tidy())
		}
		if got, ok := impl.PathsIn(x.value()); ok || len(got) != 0 {
			t.Errorf("PathsIn of %s is %q %v", x.tidy(), got, ok)
		}
	}
}

func TestPromise3EachNodeIsFoundByItsPath(t *testing.T) {
	d := &dice{state: 33}
	told := 0
	for range 4000 {
		x := d.broadTree()
		v := x.value()
		paths, ok := impl.PathsIn(v)
		if !ok {
			t.Fatalf("PathsIn of %s tells none", x.tidy())
		}
		places := x.places()
		if len(paths) != len(places) {
			t.Fatalf("PathsIn of %s is %q", x.tidy(), paths)
		}
		for k, path := range paths {
			if path != oraclePathText(places[k]) {
				t.Fatalf("%s: the path of node %d is %q, not of %q", x.tidy(), k, path, places[k])
			}
			want, _ := impl.SubOf(v, k)
			if got, ok := impl.GetAt(v, path); !ok || !sameValue(got, want) {
				t.Fatalf("GetAt(%s, %q) is %v %v, not %v", x.tidy(), path, got, ok, want)
			}
			if has, ok := impl.HasAt(v, path); !ok || !has {
				t.Fatalf("HasAt(%s, %q) is %v %v", x.tidy(), path, has, ok)
			}
			told++
		}
	}
	if told < 20000 {
		t.Errorf("%d nodes alone: that tells little", told)
	}
}
