package tests

import (
	"slices"
	"strconv"
	"strings"
	"testing"

	"loop.example/g00274/impl"
)

// act is one with a value that is told as a text; the empty text is none.
func act(kind int, path string, value string) impl.Act {
	a := impl.Act{Kind: kind, Path: path}
	if value != "" {
		a.Value = treeIn(value).value()
	}
	return a
}

func set(path string, value string) impl.Act {
	return act(impl.ActSet, path, value)
}

func unset(path string) impl.Act {
	return act(impl.ActUnset, path, "")
}

func inc(path string, by int) impl.Act {
	return act(impl.ActInc, path, strconv.Itoa(by))
}

func push(path string, value string) impl.Act {
	return act(impl.ActPush, path, value)
}

func pull(path string, value string) impl.Act {
	return act(impl.ActPull, path, value)
}

func rename(path string, name string) impl.Act {
	return act(impl.ActRename, path, quote(name))
}

func actText(a impl.Act) string {
	s, _ := impl.ValueText(a.Value)
	return "(" + strconv.Itoa(a.Kind) + " " + quote(a.Path) + " " + s + ")"
}

// sixAt are acts of each Kind at one path.
func sixAt(path string) []impl.Act {
	return []impl.Act{set(path, "1"), unset(path), inc(path, 1), push(path, "1"), pull(path, "1"), rename(path, "z")}
}

func wantDone(t *testing.T, text string, a impl.Act, want string) {
	t.Helper()
	got, code := impl.DoAct(mustRead(t, text), a)
	if code != impl.UpdateOk || !sameValue(got, mustRead(t, want)) {
		t.Errorf("DoAct(%s, %s) is %v %d, not %s", text, actText(a), got, code, want)
	}
}

// wantRefused asks for a code that leaves the value as it was.
func wantRefused(t *testing.T, text string, a impl.Act, code int) {
	t.Helper()
	if !impl.GoodAct(a) {
		t.Fatalf("the test's own act is not good: %s", actText(a))
	}
	v := mustRead(t, text)
	if got, gotCode := impl.DoAct(v, a); gotCode != code || !sameValue(got, v) {
		t.Errorf("DoAct(%s, %s) is %v %d, not %d", text, actText(a), got, gotCode, code)
	}
}

func TestUpdateConstants(t *testing.T) {
	got := []int{impl.MaxActs, impl.ActSet, impl.ActUnset, impl.ActInc, impl.ActPush, impl.ActPull, impl.ActRename,
		impl.UpdateOk, impl.UpdateBad, impl.UpdatePath, impl.UpdateKind, impl.UpdateLarge}
	if want := []int{12, 1, 2, 3, 4, 5, 6, 0, 1, 2, 3, 4}; !slices.Equal(got, want) {
		t.Errorf("constants are %v, not %v", got, want)
	}
}

func TestPromise6GoodActs(t *testing.T) {
	paths := []string{"/", "//", "/a", "/0", "/a/b~0~1/2", "/" + strings.Repeat("n", 24), strings.Repeat("/", 60)}
	noPaths := []string{"", "a", "a/b", "/~", "/~2", "/\x1f", "/\x7f", " /a", "/" + strings.Repeat("n", 25), strings.Repeat("/", 61)}
	values := []string{"null", "false", "true", "0", "-7", "1000000000", `""`, `"a/~"`, "[]", `[1,{"a":[]}]`, "{}", `{"a":1}`}
	for kind := impl.ActSet; kind <= impl.ActRename; kind++ {
		for _, value := range append(values, "") {
			fits := value != ""
			switch kind {
			case impl.ActUnset:
				fits = value == ""
			case impl.ActInc:
				fits = strings.ContainsAny(value[:min(1, len(value))], "-0123456789")
			case impl.ActRename:
				fits = strings.HasPrefix(value, `"`)
			}
			for _, path := range paths {
				if a := act(kind, path, value); impl.GoodAct(a) != fits {
					t.Errorf("GoodAct(%s) is not %v", actText(a), fits)
				}
			}
			for _, path := range noPaths {
				if a := act(kind, path, value); impl.GoodAct(a) {
					t.Errorf("GoodAct(%s)", actText(a))
				}
			}
		}
	}
}

func TestPromise6NothingAround(t *testing.T) {
	text := `{"a":{"b":1},"l":[[2],3]}`
	for _, path := range []string{"/x/y", "//", "/a/x/y", "/l/2/0", "/l/x/0", "/l/00/0", "/l/0/1/0", "/A/b", "/x/y/z"} {
		for _, a := range sixAt(path) {
			wantRefused(t, text, a, impl.UpdatePath)
		}
	}
}

func TestPromise6NeitherAMapNorAListAround(t *testing.T) {
	for _, value := range []string{"null", "false", "true", "7", `"a"`} {
		for _, a := range append(sixAt("/a"), sixAt("/0")...) {
			wantRefused(t, value, a, impl.UpdatePath)
		}
		for _, a := range append(sixAt("/m/a"), sixAt("/m/0")...) {
			wantRefused(t, `{"m":`+value+`}`, a, impl.UpdatePath)
		}
		for _, a := range append(sixAt("/0/a"), sixAt("/0/0")...) {
			wantRefused(t, `[`+value+`]`, a, impl.UpdatePath)
		}
	}
}

func TestPromise6SetInAMap(t *testing.T) {
	wantDone(t, "{}", set("/a", "1"), `{"a":1}`)
	wantDone(t, "{}", set("/", "[]"), `{"":[]}`)
	wantDone(t, "{}", set("/0", "1"), `{"0":1}`)
	wantDone(t, `{"b":[1],"d":2}`, set("/a", "[[9]]"), `{"a":[[9]],"b":[1],"d":2}`)
	wantDone(t, `{"b":[1],"d":2}`, set("/c", "null"), `{"b":[1],"c":null,"d":2}`)
	wantDone(t, `{"b":[1],"d":2}`, set("/e", `{"x":3}`), `{"b":[1],"d":2,"e":{"x":3}}`)
	wantDone(t, `{"b":[1],"d":2}`, set("/b", `"x"`), `{"b":"x","d":2}`)
	wantDone(t, `{"b":[1],"d":2}`, set("/b", "[1]"), `{"b":[1],"d":2}`)
	wantDone(t, `{"m":{"x":{"y":1}},"n":5}`, set("/m/x/y", "[2,[3]]"), `{"m":{"x":{"y":[2,[3]]}},"n":5}`)
	wantDone(t, `{"m":{"x":{"y":1}},"n":5}`, set("/m/x/z", "2"), `{"m":{"x":{"y":1,"z":2}},"n":5}`)
	wantDone(t, `[0,{"a":1}]`, set("/1/~1~0", "2"), `[0,{"/~":2,"a":1}]`)
}

func TestPromise6SetInAList(t *testing.T) {
	wantDone(t, "[1,[2,3],4]", set("/0", "9"), "[9,[2,3],4]")
	wantDone(t, "[1,[2,3],4]", set("/1", "[[]]"), "[1,[[]],4]")
	wantDone(t, "[1,[2,3],4]", set("/2", "{}"), "[1,[2,3],{}]")
	wantDone(t, "[1,[2,3],4]", set("/1/1", "9"), "[1,[2,9],4]")
	// Just behind it is new, one further is not.
	wantDone(t, "[1,[2,3],4]", set("/3", "5"), "[1,[2,3],4,5]")
	wantDone(t, "[1,[2,3],4]", set("/1/2", "[5]"), "[1,[2,3,[5]],4]")
	wantDone(t, `{"l":[7],"m":1}`, set("/l/1", "8"), `{"l":[7,8],"m":1}`)
	wantDone(t, "[]", set("/0", "1"), "[1]")
	wantDone(t, "[0,1,2,3,4,5,6,7,8,9]", set("/10", "10"), "[0,1,2,3,4,5,6,7,8,9,10]")
	for _, name := range []string{"4", "5", "100", "-1", "00", "03", "+3", "3 ", " 3", "", "-", "x", "18446744073709551619"} {
		wantRefused(t, "[1,[2,3],4]", set("/"+name, "5"), impl.UpdatePath)
	}
	for _, name := range []string{"1", "2", "-1", "00", "-0", ""} {
		wantRefused(t, "[]", set("/"+name, "5"), impl.UpdatePath)
	}
	wantRefused(t, "[1,[2,3],4]", set("/1/3", "5"), impl.UpdatePath)
	wantRefused(t, `{"l":[7],"m":1}`, set("/l/2", "8"), impl.UpdatePath)
	wantRefused(t, `{"l":[7],"m":1}`, set("/l/m", "8"), impl.UpdatePath)
}

func TestPromise6Unset(t *testing.T) {
	wantDone(t, `{"a":1,"b":[2,[3]],"c":{"d":4}}`, unset("/a"), `{"b":[2,[3]],"c":{"d":4}}`)
	wantDone(t, `{"a":1,"b":[2,[3]],"c":{"d":4}}`, unset("/b"), `{"a":1,"c":{"d":4}}`)
	wantDone(t, `{"a":1,"b":[2,[3]],"c":{"d":4}}`, unset("/c"), `{"a":1,"b":[2,[3]]}`)
	wantDone(t, `{"a":1,"b":[2,[3]],"c":{"d":4}}`, unset("/c/d"), `{"a":1,"b":[2,[3]],"c":{}}`)
	wantDone(t, `{"":1}`, unset("/"), "{}")
	wantDone(t, `[{"a":1},{"a":2}]`, unset("/1/a"), `[{"a":1},{}]`)
	// Nothing goes, where nothing is there.
	for _, path := range []string{"/x", "/", "/A", "/0", "/c/x", "/c/0"} {
		wantDone(t, `{"a":1,"c":{"d":4}}`, unset(path), `{"a":1,"c":{"d":4}}`)
	}
	wantDone(t, "{}", unset("/a"), "{}")
	// Of a list nothing goes by its number.
	for _, path := range []string{"/0", "/1", "/2", "/3", "/x", "/1/0", "/1/1"} {
		wantRefused(t, `[1,[2],{"a":3}]`, unset(path), impl.UpdatePath)
	}
	wantDone(t, `[1,[2],{"a":3}]`, unset("/2/a"), `[1,[2],{}]`)
}

func TestPromise6Inc(t *testing.T) {
	wantDone(t, `{"a":1,"b":2}`, inc("/a", 4), `{"a":5,"b":2}`)
	wantDone(t, `{"a":1,"b":2}`, inc("/b", -4), `{"a":1,"b":-2}`)
	wantDone(t, `{"a":1,"b":2}`, inc("/b", -2), `{"a":1,"b":0}`)
	wantDone(t, `{"a":1,"b":2}`, inc("/b", 0), `{"a":1,"b":2}`)
	wantDone(t, `{"l":[[1],2]}`, inc("/l/1", 3), `{"l":[[1],5]}`)
	wantDone(t, `{"l":[[1],2]}`, inc("/l/0/0", 3), `{"l":[[4],2]}`)
	wantDone(t, "[5]", inc("/0", 1), "[6]")
	// A new name is counted up from nothing; a list has no new number.
	wantDone(t, "{}", inc("/a", 4), `{"a":4}`)
	wantDone(t, "{}", inc("/0", -4), `{"0":-4}`)
	wantDone(t, `{"a":{},"c":1}`, inc("/b", 0), `{"a":{},"b":0,"c":1}`)
	wantDone(t, `{"a":{},"c":1}`, inc("/a/x", 7), `{"a":{"x":7},"c":1}`)
	for _, path := range []string{"/1", "/2", "/x", "/-1", "/00", "/"} {
		wantRefused(t, "[5]", inc(path, 1), impl.UpdatePath)
	}
	wantRefused(t, "[]", inc("/0", 1), impl.UpdatePath)
	for _, value := range []string{"null", "false", "true", `"7"`, `""`, "[]", "[7]", "{}", `{"a":7}`} {
		wantRefused(t, `{"a":`+value+`}`, inc("/a", 1), impl.UpdateKind)
		wantRefused(t, `[`+value+`]`, inc("/0", 0), impl.UpdateKind)
	}
}

func TestPromise6IncToTheGreatestNumber(t *testing.T) {
	most := 1000000000
	for _, c := range []struct {
		was, by int
		fits    bool
	}{
		{most - 1, 1, true}, {most, 0, true}, {0, most, true}, {-1, most, true}, {-most, most, true}, {most, -most, true},
		{1 - most, -1, true}, {-most, 0, true}, {0, -most, true}, {1, -most, true},
		{most, 1, false}, {1, most, false}, {most, most, false}, {most - 1, 2, false},
		{-most, -1, false}, {-1, -most, false}, {-most, -most, false}, {1 - most, -2, false},
	} {
		was, now := strconv.Itoa(c.was), strconv.Itoa(c.was+c.by)
		if c.fits {
			wantDone(t, `{"a":`+was+`}`, inc("/a", c.by), `{"a":`+now+`}`)
			wantDone(t, `[`+was+`]`, inc("/0", c.by), `[`+now+`]`)
		} else {
			wantRefused(t, `{"a":`+was+`}`, inc("/a", c.by), impl.UpdateLarge)
			wantRefused(t, `[`+was+`]`, inc("/0", c.by), impl.UpdateLarge)
		}
	}
}

func TestPromise6Push(t *testing.T) {
	wantDone(t, `{"l":[]}`, push("/l", "1"), `{"l":[1]}`)
	wantDone(t, `{"l":[1,[2]],"m":3}`, push("/l", "[4]"), `{"l":[1,[2],[4]],"m":3}`)
	wantDone(t, `{"l":[1,[2]],"m":3}`, push("/l/1", `{"x":[5]}`), `{"l":[1,[2,{"x":[5]}]],"m":3}`)
	wantDone(t, "[[1],[2],[3]]", push("/0", "9"), "[[1,9],[2],[3]]")
	wantDone(t, "[[1],[2],[3]]", push("/1", "9"), "[[1],[2,9],[3]]")
	wantDone(t, "[[1],[2],[3]]", push("/2", "[]"), "[[1],[2],[3,[]]]")
	wantDone(t, `{"l":[1]}`, push("/l", "1"), `{"l":[1,1]}`)
	// A new name gets a list of that alone; a list has no new number.
	wantDone(t, "{}", push("/a", "1"), `{"a":[1]}`)
	wantDone(t, "{}", push("/a", `[{"x":[1]},2]`), `{"a":[[{"x":[1]},2]]}`)
	wantDone(t, `{"a":1,"c":{}}`, push("/b", "null"), `{"a":1,"b":[null],"c":{}}`)
	wantDone(t, `{"a":1,"c":{}}`, push("/c/0", "{}"), `{"a":1,"c":{"0":[{}]}}`)
	for _, path := range []string{"/1", "/2", "/x", "/-1", "/00", "/"} {
		wantRefused(t, "[[]]", push(path, "1"), impl.UpdatePath)
	}
	wantRefused(t, "[]", push("/0", "1"), impl.UpdatePath)
	for _, value := range []string{"null", "false", "true", "0", `""`, `"[]"`, "{}", `{"0":[]}`} {
		wantRefused(t, `{"a":`+value+`}`, push("/a", "1"), impl.UpdateKind)
		wantRefused(t, `[`+value+`]`, push("/0", "[]"), impl.UpdateKind)
	}
}

func TestPromise6Pull(t *testing.T) {
	text := `{"l":[1,[2],1,{"x":[1]},"1",[2],1],"m":[1]}`
	wantDone(t, text, pull("/l", "1"), `{"l":[[2],{"x":[1]},"1",[2]],"m":[1]}`)
	wantDone(t, text, pull("/l", "[2]"), `{"l":[1,1,{"x":[1]},"1",1],"m":[1]}`)
	wantDone(t, text, pull("/l", `"1"`), `{"l":[1,[2],1,{"x":[1]},[2],1],"m":[1]}`)
	wantDone(t, text, pull("/l", `{"x":[1]}`), `{"l":[1,[2],1,"1",[2],1],"m":[1]}`)
	wantDone(t, text, pull("/m", "1"), `{"l":[1,[2],1,{"x":[1]},"1",[2],1],"m":[]}`)
	for _, none := range []string{"2", "null", "[]", "[1]", "[[2]]", "[2,2]", `{"x":1}`, `{"y":[1]}`, "{}", `""`, "-1"} {
		wantDone(t, text, pull("/l", none), text)
	}
	wantDone(t, `{"l":[7,7,7]}`, pull("/l", "7"), `{"l":[]}`)
	wantDone(t, `{"l":[]}`, pull("/l", "7"), `{"l":[]}`)
	wantDone(t, `{"l":[[],[[]],[]]}`, pull("/l", "[]"), `{"l":[[[]]]}`)
	wantDone(t, `{"l":[[[]],[],[[]]]}`, pull("/l", "[[]]"), `{"l":[[]]}`)
	wantDone(t, `{"a":{"l":[1,2,1]},"b":[1]}`, pull("/a/l", "1"), `{"a":{"l":[2]},"b":[1]}`)
	wantDone(t, `[{"l":[1,2,1]},1]`, pull("/0/l", "1"), `[{"l":[2]},1]`)
	// Nothing changes, where nothing is there.
	for _, path := range []string{"/x", "/", "/0", "/L"} {
		wantDone(t, text, pull(path, "1"), text)
	}
	for _, value := range []string{"null", "false", "1", `"1"`, "{}", `{"0":1}`} {
		wantRefused(t, `{"a":`+value+`}`, pull("/a", "1"), impl.UpdateKind)
	}
	// A list within a list is not pulled from by its number.
	for _, path := range []string{"/0", "/1", "/2", "/x", "/0/0"} {
		wantRefused(t, "[[1],1]", pull(path, "1"), impl.UpdatePath)
	}
	wantRefused(t, text, pull("/l/0", "1"), impl.UpdatePath)
	wantRefused(t, text, pull("/l/1", "2"), impl.UpdatePath)
}

func TestPromise6Rename(t *testing.T) {
	text := `{"b":[1,[2]],"d":{"x":3},"f":4}`
	wantDone(t, text, rename("/b", "a"), `{"a":[1,[2]],"d":{"x":3},"f":4}`)
	wantDone(t, text, rename("/b", "c"), `{"c":[1,[2]],"d":{"x":3},"f":4}`)
	wantDone(t, text, rename("/b", "e"), `{"d":{"x":3},"e":[1,[2]],"f":4}`)
	wantDone(t, text, rename("/b", "g"), `{"d":{"x":3},"f":4,"g":[1,[2]]}`)
	wantDone(t, text, rename("/f", ""), `{"":4,"b":[1,[2]],"d":{"x":3}}`)
	wantDone(t, text, rename("/d", "/~ x/y"), `{"/~ x/y":{"x":3},"b":[1,[2]],"f":4}`)
	wantDone(t, text, rename("/d/x", "b"), `{"b":[1,[2]],"d":{"b":3},"f":4}`)
	wantDone(t, `[{"a":1},{"a":[2]}]`, rename("/1/a", "0"), `[{"a":1},{"0":[2]}]`)
	// What had the name before is not any more.
	wantDone(t, text, rename("/b", "d"), `{"d":[1,[2]],"f":4}`)
	wantDone(t, text, rename("/b", "f"), `{"d":{"x":3},"f":[1,[2]]}`)
	wantDone(t, text, rename("/d", "b"), `{"b":{"x":3},"f":4}`)
	wantDone(t, text, rename("/f", "b"), `{"b":4,"d":{"x":3}}`)
	for _, name := range []string{"b", "d", "f"} {
		wantDone(t, text, rename("/"+name, name), text)
	}
	wantDone(t, text, rename("/d/x", "x"), text)
	for _, path := range []string{"/x", "/", "/0", "/d/y", "/d/0", "/B"} {
		wantRefused(t, text, rename(path, "z"), impl.UpdatePath)
		wantRefused(t, text, rename(path, "b"), impl.UpdatePath)
	}
	// Of a list: where nothing is there is asked for ahead of what is around.
	for _, path := range []string{"/b/0", "/b/1", "/b/1/0"} {
		wantRefused(t, text, rename(path, "z"), impl.UpdateKind)
		wantRefused(t, text, rename(path, "0"), impl.UpdateKind)
	}
	for _, path := range []string{"/b/2", "/b/3", "/b/x", "/b/1/1", "/b/00"} {
		wantRefused(t, text, rename(path, "0"), impl.UpdatePath)
	}
	wantRefused(t, "[1]", rename("/0", "0"), impl.UpdateKind)
	wantRefused(t, "[]", rename("/0", "0"), impl.UpdatePath)
}

func TestPromise6NamesAtTheirLimit(t *testing.T) {
	name := strings.Repeat("n", 24)
	wantDone(t, `{"a":1}`, rename("/a", name), `{"`+name+`":1}`)
	wantDone(t, `{"`+name+`":1}`, rename("/"+name, "a"), `{"a":1}`)
	wantDone(t, "{}", set("/"+name, "1"), `{"`+name+`":1}`)
	longer := impl.Act{Kind: impl.ActRename, Path: "/a", Value: textTree(name + "n").value()}
	if impl.GoodAct(longer) {
		t.Error("GoodAct of a new name that is too long")
	}
}

// Each act is held against what comes of it: at a limit it is done, beyond it the value stays.
func TestPromise6WhatActsMakeIsGood(t *testing.T) {
	long := manyNames("a", 9, textTree(strings.Repeat("t", 22)))
	deep := nested(5, listOf())
	tail := func(n int) string { return quote(strings.Repeat("t", n)) }
	for _, c := range []struct {
		what string
		x    tree
		a    impl.Act
		good bool
	}{
		{"set to 80 nodes", mapOf("l", zeros(77)), set("/b", "1"), true},
		{"set to 81 nodes", mapOf("l", zeros(77)), set("/b", "[1]"), false},
		{"set in a list to 80 nodes", zeros(78), set("/78", "1"), true},
		{"set in a list to 81 nodes", zeros(79), set("/79", "1"), false},
		{"set in the place of another to 80 nodes", zeros(78), set("/7", "[1]"), true},
		{"set in the place of another to 81 nodes", zeros(79), set("/7", "[1]"), false},
		{"set to 300 bytes", long, set("/b", tail(22)), true},
		{"set to 301 bytes", long, set("/b", tail(23)), false},
		{"set six deep", mapOf("a", numberTree(1)), set("/a", nested(5, numberTree(1)).tidy()), true},
		{"set seven deep", mapOf("a", numberTree(1)), set("/a", deep.tidy()), false},
		{"inc to 80 nodes", mapOf("l", zeros(77)), inc("/b", 1), true},
		{"inc to 81 nodes", mapOf("l", zeros(78)), inc("/b", 1), false},
		{"inc to 300 bytes", long.with("b", textTree(strings.Repeat("t", 16))), inc("/c", 1), true},
		{"inc to 301 bytes", long.with("b", textTree(strings.Repeat("t", 16))), inc("/c", 10), false},
		{"inc to a longer number", long.with("b", textTree(strings.Repeat("t", 16))).with("c", numberTree(9)), inc("/c", 1), false},
		{"inc to as long a number", long.with("b", textTree(strings.Repeat("t", 16))).with("c", numberTree(8)), inc("/c", 1), true},
		{"push to 80 nodes", mapOf("l", zeros(77)), push("/l", "1"), true},
		{"push to 81 nodes", mapOf("l", zeros(77)), push("/l", "[1]"), false},
		{"push by a new name to 80 nodes", mapOf("l", zeros(76)), push("/b", "1"), true},
		{"push by a new name to 81 nodes", mapOf("l", zeros(77)), push("/b", "1"), false},
		{"push by a new name to 300 bytes", long, push("/b", tail(20)), true},
		{"push by a new name to 301 bytes", long, push("/b", tail(21)), false},
		{"push six deep", mapsWithin(5, listOf()), push("/a/a/a/a/a", "1"), true},
		{"push seven deep", mapsWithin(5, listOf()), push("/a/a/a/a/a", "[]"), false},
		{"push by a new name six deep", mapsWithin(4, tree{kind: impl.KindMap}), push("/a/a/a/a/b", "1"), true},
		{"push by a new name seven deep", mapsWithin(5, tree{kind: impl.KindMap}), push("/a/a/a/a/a/b", "1"), false},
		{"rename to 300 bytes", long.with("b", textTree(strings.Repeat("t", 15))), rename("/b", "bbbbbbbb"), true},
		{"rename to 301 bytes", long.with("b", textTree(strings.Repeat("t", 15))), rename("/b", "bbbbbbbbb"), false},
		{"rename to 301 bytes by a mark", long.with("b", textTree(strings.Repeat("t", 22))), rename("/b", `"`), false},
		{"rename over another", long.with("b", textTree(strings.Repeat("t", 22))), rename("/b", "a1"), true},
		{"unset of the greatest", mapOf("l", zeros(78)), unset("/l"), true},
		{"unset of nothing", mapOf("l", zeros(78)), unset("/x"), true},
		{"pull from the greatest", mapOf("l", zeros(78)), pull("/l", "0"), true},
		{"pull of nothing", mapOf("l", zeros(78)), pull("/l", "1"), true},
	} {
		want, code := actedOn(c.x, c.a)
		if !c.x.sound() || !impl.GoodAct(c.a) || code != impl.UpdateOk || want.sound() != c.good {
			t.Fatalf("%s: the test is not as it says: %d nodes, %d bytes, code %d", c.what, want.size(), len(want.tidy()), code)
		}
		if c.good {
			wantDone(t, c.x.tidy(), c.a, want.tidy())
		} else {
			wantRefused(t, c.x.tidy(), c.a, impl.UpdateLarge)
		}
	}
}

func TestPromise6CodesInTheirOrder(t *testing.T) {
	full := mapOf("l", zeros(77)).with("n", numberTree(1)).tidy()
	deep := nested(6, listOf())
	// Not good comes ahead of where it leads; where it leads ahead of what is there; both ahead of what comes of it.
	for _, a := range []impl.Act{{Kind: 9, Path: "/x/y"}, {Kind: impl.ActInc, Path: "/x/y", Value: textTree("1").value()},
		{Kind: impl.ActRename, Path: "/l/0", Value: impl.NumberOf(1)}, {Kind: impl.ActSet, Path: "/l", Value: deep.value()}} {
		if got, code := impl.DoAct(mustRead(t, full), a); code != impl.UpdateBad || len(got.Nodes) != 0 {
			t.Errorf("DoAct(%v) is %v %d", a, got, code)
		}
	}
	wantRefused(t, full, set("/l/78", zeros(70).tidy()), impl.UpdatePath)
	wantRefused(t, full, set("/x/y", zeros(70).tidy()), impl.UpdatePath)
	wantRefused(t, full, push("/l/77", zeros(70).tidy()), impl.UpdatePath)
	wantRefused(t, full, push("/n", zeros(70).tidy()), impl.UpdateKind)
	wantRefused(t, full, push("/l", zeros(70).tidy()), impl.UpdateLarge)
	wantRefused(t, full, inc("/n", 1000000000), impl.UpdateLarge)
	wantRefused(t, full, inc("/l", 1000000000), impl.UpdateKind)
	wantRefused(t, full, inc("/l/77", 1000000000), impl.UpdatePath)
}
