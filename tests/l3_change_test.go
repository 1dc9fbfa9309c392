package tests

import (
	"slices"
	"strconv"
	"strings"
	"testing"

	"loop.example/g00274/impl"
)

// wantSet asks for what SetAt makes; the empty text stands for the zero answer.
func wantSet(t *testing.T, text string, path string, part string, want string) {
	t.Helper()
	v, x := mustRead(t, text), mustRead(t, part)
	if want == "" {
		wantNoSet(t, v, path, x)
		return
	}
	got, ok := impl.SetAt(v, path, x)
	if !ok || !sameValue(got, mustRead(t, want)) {
		t.Errorf("SetAt(%s, %q, %s) is %v %v, not %s", text, path, part, got, ok, want)
	}
	if at, ok := impl.GetAt(got, path); !ok || !sameValue(at, x) {
		t.Errorf("behind SetAt(%s, %q, %s) GetAt is %v %v", text, path, part, at, ok)
	}
}

func wantRemoved(t *testing.T, text string, path string, want string) {
	t.Helper()
	if got, ok := impl.RemoveAt(mustRead(t, text), path); !ok || !sameValue(got, mustRead(t, want)) {
		t.Errorf("RemoveAt(%s, %q) is %v %v, not %s", text, path, got, ok, want)
	}
}

func TestPromise3SetAtTheEmptyPath(t *testing.T) {
	for _, text := range []string{"null", "5", `"a"`, "[]", `[1,[2]]`, `{"a":{"b":1}}`} {
		for _, part := range []string{"null", "6", `["x",{"y":[]}]`, text} {
			wantSet(t, text, "", part, part)
		}
	}
}

func TestPromise3SetAtWhatIsThere(t *testing.T) {
	text := `{"a":[1,[2,3],{"x":4}],"b":{"c":{"d":5}},"e":6}`
	wantSet(t, text, "/a", "7", `{"a":7,"b":{"c":{"d":5}},"e":6}`)
	wantSet(t, text, "/a/0", "7", `{"a":[7,[2,3],{"x":4}],"b":{"c":{"d":5}},"e":6}`)
	wantSet(t, text, "/a/0", "[[7],8]", `{"a":[[[7],8],[2,3],{"x":4}],"b":{"c":{"d":5}},"e":6}`)
	wantSet(t, text, "/a/1", "7", `{"a":[1,7,{"x":4}],"b":{"c":{"d":5}},"e":6}`)
	wantSet(t, text, "/a/1", `{"z":[7]}`, `{"a":[1,{"z":[7]},{"x":4}],"b":{"c":{"d":5}},"e":6}`)
	wantSet(t, text, "/a/1/1", `{}`, `{"a":[1,[2,{}],{"x":4}],"b":{"c":{"d":5}},"e":6}`)
	wantSet(t, text, "/a/2/x", `[[],[]]`, `{"a":[1,[2,3],{"x":[[],[]]}],"b":{"c":{"d":5}},"e":6}`)
	wantSet(t, text, "/b", "null", `{"a":[1,[2,3],{"x":4}],"b":null,"e":6}`)
	wantSet(t, text, "/b/c", `[1,2,3]`, `{"a":[1,[2,3],{"x":4}],"b":{"c":[1,2,3]},"e":6}`)
	wantSet(t, text, "/b/c/d", `{"k":{"l":1}}`, `{"a":[1,[2,3],{"x":4}],"b":{"c":{"d":{"k":{"l":1}}}},"e":6}`)
	wantSet(t, text, "/e", `"~/"`, `{"a":[1,[2,3],{"x":4}],"b":{"c":{"d":5}},"e":"~/"}`)
	wantSet(t, text, "/e", "6", text)
}

func TestPromise3SetAtANewName(t *testing.T) {
	wantSet(t, "{}", "/", "1", `{"":1}`)
	wantSet(t, "{}", "/0", "1", `{"0":1}`)
	wantSet(t, "{}", "/~1~0", "1", `{"/~":1}`)
	wantSet(t, `{"b":[1],"d":{"x":2}}`, "/", `[[9]]`, `{"":[[9]],"b":[1],"d":{"x":2}}`)
	wantSet(t, `{"b":[1],"d":{"x":2}}`, "/a", `[[9]]`, `{"a":[[9]],"b":[1],"d":{"x":2}}`)
	wantSet(t, `{"b":[1],"d":{"x":2}}`, "/c", `[[9]]`, `{"b":[1],"c":[[9]],"d":{"x":2}}`)
	wantSet(t, `{"b":[1],"d":{"x":2}}`, "/e", `[[9]]`, `{"b":[1],"d":{"x":2},"e":[[9]]}`)
	wantSet(t, `{"b":[1],"d":{"x":2}}`, "/bb", `9`, `{"b":[1],"bb":9,"d":{"x":2}}`)
	wantSet(t, `{"b":[1],"d":{"x":2}}`, "/d/w", `9`, `{"b":[1],"d":{"w":9,"x":2}}`)
	wantSet(t, `{"b":[1],"d":{"x":2}}`, "/d/y", `{"b":9}`, `{"b":[1],"d":{"x":2,"y":{"b":9}}}`)
	wantSet(t, `{"b":{"c":[1]},"d":{"x":2}}`, "/b/a", `{"b":9}`, `{"b":{"a":{"b":9},"c":[1]},"d":{"x":2}}`)
	wantSet(t, `{"b":{"c":[1]},"d":{"x":2}}`, "/b/d", `{"b":9}`, `{"b":{"c":[1],"d":{"b":9}},"d":{"x":2}}`)
	wantSet(t, `[{"b":[1]},{"c":[2]},3]`, "/1/b", `[[]]`, `[{"b":[1]},{"b":[[]],"c":[2]},3]`)
	wantSet(t, `[{},{},[{}]]`, "/1/a", `[[]]`, `[{},{"a":[[]]},[{}]]`)
	wantSet(t, `{"-1":1,"00":2}`, "/0", "3", `{"-1":1,"0":3,"00":2}`)
	name := strings.Repeat("n", 24)
	wantSet(t, "{}", "/"+name, "1", `{"`+name+`":1}`)
	wantSet(t, "{}", "/"+name+"n", "1", "")
}

func TestPromise3SetJustBehindAList(t *testing.T) {
	wantSet(t, "[]", "/0", "1", "[1]")
	wantSet(t, "[1]", "/1", `{"a":[]}`, `[1,{"a":[]}]`)
	wantSet(t, "[[],[]]", "/2", "[[3]]", "[[],[],[[3]]]")
	wantSet(t, "[[],[]]", "/0/0", "[[3]]", "[[[[3]]],[]]")
	wantSet(t, "[[],[[],4]]", "/1/2", "[[3]]", "[[],[[],4,[[3]]]]")
	wantSet(t, "[[],[[],4]]", "/1/0/0", "[[3]]", "[[],[[[[3]]],4]]")
	wantSet(t, `{"a":[1,[2]],"b":[3]}`, "/a/2", `"x"`, `{"a":[1,[2],"x"],"b":[3]}`)
	wantSet(t, `{"a":[1,[2]],"b":[3]}`, "/b/1", `"x"`, `{"a":[1,[2]],"b":[3,"x"]}`)
	wantSet(t, "[0,1,2,3,4,5,6,7,8,9]", "/10", "10", "[0,1,2,3,4,5,6,7,8,9,10]")
	for _, name := range []string{"1", "2", "00", "+0", "-0", "-1", "", "-", "a", " 0", "18446744073709551616"} {
		wantSet(t, "[]", "/"+name, "1", "")
	}
	for _, name := range []string{"3", "4", "02", "+2", "-2", "2 ", "", "-", "a", "18446744073709551618"} {
		wantSet(t, "[1,[2]]", "/"+name, "1", "")
	}
	wantSet(t, "[1,[2,3]]", "/4", "1", "")
	wantSet(t, "[1,[2,3]]", "/3", "1", "")
}

func TestPromise3SetWhereMoreThanTheLastNameIsMissing(t *testing.T) {
	wantSet(t, "{}", "/a/b", "1", "")
	wantSet(t, "{}", "//", "1", "")
	wantSet(t, "[]", "/0/0", "1", "")
	wantSet(t, "[]", "/0/a", "1", "")
	wantSet(t, `{"a":{}}`, "/b/a", "1", "")
	wantSet(t, `{"a":{}}`, "/a/b/c", "1", "")
	wantSet(t, `{"a":[1]}`, "/a/1/0", "1", "")
	wantSet(t, `{"a":[1]}`, "/a/0/0", "1", "")
	wantSet(t, `{"a":"b"}`, "/a/b", "1", "")
	wantSet(t, `{"a":null}`, "/a/b", "1", "")
	wantSet(t, `{"a":{}}`, "/a/b", "1", `{"a":{"b":1}}`)
}

func TestPromise3WhatSetAtMakesIsGood(t *testing.T) {
	deep := nested(5, listOf())
	if deep.deep() != 6 {
		t.Fatal("so deep:", deep.deep())
	}
	full := listOf(slices.Repeat([]tree{numberTree(1)}, 78)...)
	long := listOf(slices.Repeat([]tree{textTree(strings.Repeat("t", 24))}, 11)...)
	for _, c := range []struct {
		what string
		x    tree
		path string
		part tree
		good bool
	}{
		{"80 nodes", full, "/78", numberTree(1), true},
		{"80 nodes, one of them in the place of another", full, "/0", listOf(numberTree(1)), true},
		{"81 nodes", full, "/78", listOf(numberTree(1)), false},
		{"81 nodes by one in the place of another", full, "/0", listOf(numberTree(1), numberTree(1)), false},
		{"six deep", listOf(numberTree(1)), "/0", nested(5, numberTree(1)), true},
		{"seven deep", listOf(numberTree(1)), "/0", deep, false},
		{"six deep behind a list", listOf(), "/0", nested(5, numberTree(1)), true},
		{"seven deep behind a list", listOf(), "/0", deep, false},
		{"seven deep by a new name", tree{kind: impl.KindMap}, "/a", deep, false},
		{"as deep as it was", deep, "", deep, true},
		{"300 bytes", long, "/11", numberTree(7), true},
		{"301 bytes", long, "/11", numberTree(77), false},
		{"300 bytes by one in the place of another", long, "/3", listOf(long.kids[3]), true},
		{"302 bytes by one in the place of another", long, "/3", listOf(listOf(long.kids[3])), false},
	} {
		names, _ := oraclePath(c.path)
		want, _ := c.x.set(names, c.part)
		if !impl.GoodValue(c.x.value()) || !impl.GoodValue(c.part.value()) || want.sound() != c.good {
			t.Fatalf("%s: the test is not as it says", c.what)
		}
		if !c.good {
			wantNoSet(t, c.x.value(), c.path, c.part.value())
			continue
		}
		got, ok := impl.SetAt(c.x.value(), c.path, c.part.value())
		if !ok || !sameValue(got, want.value()) {
			t.Errorf("%s: SetAt is %v %v", c.what, got, ok)
		}
	}
}

func TestPromise3RemoveAt(t *testing.T) {
	wantRemoved(t, "[1]", "/0", "[]")
	wantRemoved(t, `{"":1}`, "/", "{}")
	wantRemoved(t, `{"a":1,"b":2,"c":3}`, "/a", `{"b":2,"c":3}`)
	wantRemoved(t, `{"a":1,"b":2,"c":3}`, "/b", `{"a":1,"c":3}`)
	wantRemoved(t, `{"a":1,"b":2,"c":3}`, "/c", `{"a":1,"b":2}`)
	wantRemoved(t, `{"a":[1,[2,[3]]],"b":[4,[5]],"c":[6]}`, "/a", `{"b":[4,[5]],"c":[6]}`)
	wantRemoved(t, `{"a":[1,[2,[3]]],"b":[4,[5]],"c":[6]}`, "/b", `{"a":[1,[2,[3]]],"c":[6]}`)
	wantRemoved(t, `{"a":[1,[2,[3]]],"b":[4,[5]],"c":[6]}`, "/a/1/1", `{"a":[1,[2]],"b":[4,[5]],"c":[6]}`)
	wantRemoved(t, `{"a":[1,[2,[3]]],"b":[4,[5]],"c":[6]}`, "/a/1/1/0", `{"a":[1,[2,[]]],"b":[4,[5]],"c":[6]}`)
	wantRemoved(t, `{"a":[1,[2,[3]]],"b":[4,[5]],"c":[6]}`, "/b/0", `{"a":[1,[2,[3]]],"b":[[5]],"c":[6]}`)
	wantRemoved(t, `{"a/b":1,"a~b":2}`, "/a~1b", `{"a~b":2}`)
	wantRemoved(t, `{"a/b":1,"a~b":2}`, "/a~0b", `{"a/b":1}`)
	wantRemoved(t, `[[0],{"x":[1]},[[2]],{"y":[3]}]`, "/1", `[[0],[[2]],{"y":[3]}]`)
	wantRemoved(t, `[[0],{"x":[1]},[[2]],{"y":[3]}]`, "/0", `[{"x":[1]},[[2]],{"y":[3]}]`)
	wantRemoved(t, `[[0],{"x":[1]},[[2]],{"y":[3]}]`, "/3", `[[0],{"x":[1]},[[2]]]`)
	wantRemoved(t, `[[0],{"x":[1]},[[2]],{"y":[3]}]`, "/1/x", `[[0],{},[[2]],{"y":[3]}]`)
	v := mustRead(t, `{"a":[1],"b":{"c":2}}`)
	for _, path := range []string{"/c", "/", "/a/1", "/a/00", "/a/0/0", "/b/d", "/b/c/d", "/0", "/a/-1"} {
		wantNothingAt(t, v, path)
	}
	for _, text := range []string{"1", "[]", "{}", `[1]`, `{"":1}`, `{"a":[1],"b":{"c":2}}`} {
		if got, ok := impl.RemoveAt(mustRead(t, text), ""); ok || len(got.Nodes) != 0 {
			t.Errorf("RemoveAt(%s) of the empty path is %v %v", text, got, ok)
		}
	}
}

// somewhere tells names that lead to a node, or just beside one.
func (d *dice) somewhere(x tree) []string {
	places := x.places()
	names := slices.Clone(places[d.below(len(places))])
	at, _ := x.at(names)
	switch d.below(8) {
	case 0, 1, 2:
		return names
	case 3, 4:
		return append(names, strconv.Itoa(len(at.kids)))
	case 5:
		return append(names, strconv.Itoa(d.below(4)))
	case 6:
		return append(names, d.text(2))
	}
	return append(names, d.text(1), d.text(1))
}

func TestPromise3SetAtAgainstTrees(t *testing.T) {
	d := &dice{state: 34}
	done, refused := 0, 0
	for range 15000 {
		x, y := d.broadTree(), d.soundTree()
		names := d.somewhere(x)
		path := oraclePathText(names)
		want, ok := x.set(names, y)
		if !ok || !want.sound() {
			refused++
			wantNoSet(t, x.value(), path, y.value())
			continue
		}
		done++
		got, ok := impl.SetAt(x.value(), path, y.value())
		if !ok || !sameValue(got, want.value()) {
			t.Fatalf("SetAt(%s, %q, %s) is %v %v, not %s", x.tidy(), path, y.tidy(), got, ok, want.tidy())
		}
		if at, ok := impl.GetAt(got, path); !ok || !sameValue(at, y.value()) {
			t.Fatalf("GetAt(%s, %q) is %v %v, not %s", want.tidy(), path, at, ok, y.tidy())
		}
		if has, ok := impl.HasAt(got, path); !ok || !has {
			t.Fatalf("HasAt(%s, %q) is %v %v", want.tidy(), path, has, ok)
		}
	}
	if done < 4000 || refused < 4000 {
		t.Errorf("%d done and %d refused: that tells little", done, refused)
	}
}

func TestPromise3RemoveAtAgainstTrees(t *testing.T) {
	d := &dice{state: 35}
	done, again := 0, 0
	for range 15000 {
		x := d.broadTree()
		names := d.somewhere(x)
		path := oraclePathText(names)
		at, found := x.at(names)
		if has, ok := impl.HasAt(x.value(), path); !ok || has != found {
			t.Fatalf("HasAt(%s, %q) is %v %v", x.tidy(), path, has, ok)
		}
		want, ok := x.without(names)
		got, gotOk := impl.RemoveAt(x.value(), path)
		if !ok {
			if gotOk || len(got.Nodes) != 0 {
				t.Fatalf("RemoveAt(%s, %q) is %v %v", x.tidy(), path, got, gotOk)
			}
			continue
		}
		done++
		if !gotOk || !sameValue(got, want.value()) {
			t.Fatalf("RemoveAt(%s, %q) is %v %v, not %s", x.tidy(), path, got, gotOk, want.tidy())
		}
		around, _ := x.at(names[:len(names)-1])
		if around.kind == impl.KindMap {
			again++
			wantAt(t, got, path, "")
			if back, ok := impl.SetAt(got, path, at.value()); !ok || !sameValue(back, x.value()) {
				t.Fatalf("%s: removed and set again at %q it is %v %v", x.tidy(), path, back, ok)
			}
		}
	}
	if done < 4000 || again < 2000 {
		t.Errorf("%d removed, %d set again: that tells little", done, again)
	}
}
