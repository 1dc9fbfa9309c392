package tests

import (
	"slices"
	"strings"
	"testing"

	"loop.example/g00274/impl"
)

// wantNoUpdate asks each function of the chapter that takes a value for its answer where that is not good.
func wantNoUpdate(t *testing.T, what string, v impl.Value) {
	t.Helper()
	acts := append(sixAt("/a"), sixAt("/0")...)
	for _, a := range append(acts, set("/x/y", "1"), impl.Act{}, impl.Act{Kind: 9, Path: "a"}) {
		wantBadAct(t, what, v, a)
	}
	good := inc("/a", 1)
	for _, l := range [][]impl.Act{nil, {}, {good}, {good, good}, {{}}, {good, {}}, slices.Repeat([]impl.Act{good}, 12), slices.Repeat([]impl.Act{good}, 13)} {
		if got, done, code := impl.DoActs(v, l); code != impl.UpdateBad || done != 0 || len(got.Nodes) != 0 {
			t.Errorf("%s: DoActs of %d acts is %v %d %d", what, len(l), got, done, code)
		}
		if got, ok := impl.PostImage(v, l); ok || len(got.Nodes) != 0 {
			t.Errorf("%s: PostImage of %d acts is %v %v", what, len(l), got, ok)
		}
	}
}

// wantBadAct asks for UpdateBad with the zero value.
func wantBadAct(t *testing.T, what string, v impl.Value, a impl.Act) {
	t.Helper()
	if got, code := impl.DoAct(v, a); code != impl.UpdateBad || len(got.Nodes) != 0 {
		t.Errorf("%s: DoAct is %v %d", what, got, code)
	}
	if steady, ok := impl.IsSteady(v, a); ok || steady {
		t.Errorf("%s: IsSteady is %v %v", what, steady, ok)
	}
}

// wantNoAct asks each function of the chapter for its answer where an act is not good.
func wantNoAct(t *testing.T, what string, a impl.Act) {
	t.Helper()
	if impl.GoodAct(a) {
		t.Errorf("%s: GoodAct", what)
	}
	for _, text := range []string{"null", "7", "[]", "[1,[2]]", "{}", `{"a":1,"l":[2]}`} {
		v := mustRead(t, text)
		wantBadAct(t, what, v, a)
		wantActs(t, v, []impl.Act{a}, v, 0, impl.UpdateBad)
		wantActs(t, v, []impl.Act{a, unset("/x")}, v, 0, impl.UpdateBad)
	}
	v := mustRead(t, `{"a":1,"l":[2]}`)
	wantActs(t, v, []impl.Act{inc("/a", 1), unset("/l"), a, inc("/a", 1)}, v, 2, impl.UpdateBad)
	wantActs(t, v, append(slices.Repeat([]impl.Act{inc("/a", 1)}, 11), a), v, 11, impl.UpdateBad)
}

// brokenActs are acts that break one rule each.
func brokenActs() map[string]impl.Act {
	long := strings.Repeat("n", 25)
	return map[string]impl.Act{
		"nothing at all":                  {},
		"the Kind 0":                      {Kind: 0, Path: "/a", Value: impl.NumberOf(1)},
		"the Kind 7":                      {Kind: 7, Path: "/a", Value: impl.NumberOf(1)},
		"the Kind -1":                     {Kind: -1, Path: "/a", Value: impl.NumberOf(1)},
		"an empty Path to set":            set("", "1"),
		"an empty Path to unset":          unset(""),
		"an empty Path to count":          inc("", 1),
		"an empty Path to push":           push("", "1"),
		"an empty Path to pull":           pull("", "1"),
		"an empty Path to rename":         rename("", "b"),
		"no Path to set":                  set("a", "1"),
		"no Path to unset":                unset("a/b"),
		"no Path to count":                inc("/~", 1),
		"no Path to push":                 push("/~2", "1"),
		"no Path to pull":                 pull("/"+long, "1"),
		"no Path to rename":               rename("/a\n", "b"),
		"too long a Path":                 set(strings.Repeat("/", 61), "1"),
		"a million bytes as Path":         unset(strings.Repeat("/a", 500000)),
		"set without a Value":             {Kind: impl.ActSet, Path: "/a"},
		"push without a Value":            {Kind: impl.ActPush, Path: "/l"},
		"pull without a Value":            {Kind: impl.ActPull, Path: "/l"},
		"count without a Value":           {Kind: impl.ActInc, Path: "/a"},
		"rename without a Value":          {Kind: impl.ActRename, Path: "/a"},
		"unset with a Value":              act(impl.ActUnset, "/a", "1"),
		"unset with a null":               act(impl.ActUnset, "/a", "null"),
		"count by null":                   act(impl.ActInc, "/a", "null"),
		"count by a text":                 act(impl.ActInc, "/a", `"1"`),
		"count by a list":                 act(impl.ActInc, "/a", "[1]"),
		"count by a map":                  act(impl.ActInc, "/a", `{"a":1}`),
		"count by too much":               {Kind: impl.ActInc, Path: "/a", Value: numberTree(1000000001).value()},
		"count by too little":             {Kind: impl.ActInc, Path: "/a", Value: numberTree(-1000000001).value()},
		"count by as much as can be":      {Kind: impl.ActInc, Path: "/a", Value: numberTree(greatest).value()},
		"rename to a number":              act(impl.ActRename, "/a", "1"),
		"rename to null":                  act(impl.ActRename, "/a", "null"),
		"rename to a list":                act(impl.ActRename, "/a", `["b"]`),
		"rename to a map":                 act(impl.ActRename, "/a", `{"b":"b"}`),
		"rename to too long a name":       {Kind: impl.ActRename, Path: "/a", Value: textTree(long).value()},
		"rename to bytes that are not so": {Kind: impl.ActRename, Path: "/a", Value: textTree("b\n").value()},
		"a number with a part behind it":  {Kind: impl.ActInc, Path: "/a", Value: impl.Value{Nodes: []impl.Node{{Kind: impl.KindNumber, Num: 1, Up: -1}, {Kind: impl.KindNull}}}},
		"a text with a part behind it":    {Kind: impl.ActRename, Path: "/a", Value: impl.Value{Nodes: []impl.Node{{Kind: impl.KindText, Text: "b", Up: -1}, {Kind: impl.KindNull}}}},
		"a number that has a name":        {Kind: impl.ActInc, Path: "/a", Value: impl.Value{Nodes: []impl.Node{{Kind: impl.KindNumber, Num: 1, Name: "a", Up: -1}}}},
		"a text that is told as a part":   {Kind: impl.ActRename, Path: "/a", Value: impl.Value{Nodes: []impl.Node{{Kind: impl.KindText, Text: "b", Up: 0}}}},
		"the Kind 8 and no nodes":         {Kind: 8, Path: "/a", Value: impl.Value{Nodes: []impl.Node{}}},
	}
}

func TestPromise6ActsThatAreNotGood(t *testing.T) {
	for rule, a := range brokenActs() {
		wantNoAct(t, rule, a)
	}
	if !impl.GoodAct(impl.Act{Kind: impl.ActUnset, Path: "/a", Value: impl.Value{Nodes: []impl.Node{}}}) {
		t.Error("the empty list of nodes is not the same as none")
	}
}

func TestPromise19ActsWithValuesThatAreNotGood(t *testing.T) {
	for what, v := range badValues() {
		for kind := impl.ActSet; kind <= impl.ActRename; kind++ {
			if kind != impl.ActUnset || len(v.Nodes) > 0 {
				wantNoAct(t, what, impl.Act{Kind: kind, Path: "/a", Value: v})
			}
		}
	}
}

func TestPromise19UpdatesOfValuesThatAreNotGood(t *testing.T) {
	for what, v := range badValues() {
		wantNoUpdate(t, what, v)
	}
}

func TestPromise19UpdatesOfAnyKindAndUp(t *testing.T) {
	base := mustRead(t, `{"a":{"b":null},"c":[2]}`)
	for k := range base.Nodes {
		for _, n := range []int{least, -1000, -2, -1, 0, 1, 2, 3, 4, 5, 6, 7, 8, 9, 1000, greatest} {
			for _, v := range []impl.Value{changed(base, k, func(x *impl.Node) { x.Kind = n }),
				changed(base, k, func(x *impl.Node) { x.Up = n }),
				changed(base, k, func(x *impl.Node) { x.Num = n })} {
				if oracleGood(v) {
					wantActs(t, v, nil, v, 0, impl.UpdateOk)
					continue
				}
				wantNoUpdate(t, "changed", v)
				wantNoAct(t, "changed", impl.Act{Kind: impl.ActSet, Path: "/a", Value: v})
			}
		}
	}
}

func TestPromise19ActsOfAnyKind(t *testing.T) {
	for _, kind := range []int{least, least + 1, -1000, -6, -2, -1, 0, 7, 8, 9, 12, 255, 256, 257, 1000, 1 << 32, 1<<32 + 1, greatest - 1, greatest} {
		for _, value := range []string{"", "null", "1", `"b"`, "[]", "{}"} {
			wantNoAct(t, "any Kind", act(kind, "/a", value))
		}
	}
}

func TestPromise19AnyTextAsAnActsPath(t *testing.T) {
	for c := range 256 {
		for _, path := range []string{string([]byte{byte(c)}), "/" + string([]byte{byte(c)}), "/a/" + string([]byte{byte(c), 'a'})} {
			_, ok := oraclePath(path)
			for _, a := range sixAt(path) {
				if impl.GoodAct(a) != ok {
					t.Errorf("GoodAct(%s) is not %v", actText(a), ok)
				} else if !ok {
					wantNoAct(t, "a path", a)
				}
			}
		}
	}
}

func TestPromise19NoActsAtAll(t *testing.T) {
	for _, v := range []impl.Value{impl.NumberOf(1), mustRead(t, "[]"), mustRead(t, `{"a":[1]}`)} {
		for _, l := range [][]impl.Act{nil, {}, make([]impl.Act, 0, 5)} {
			wantActs(t, v, l, v, 0, impl.UpdateOk)
			got, _, _ := impl.DoActs(v, l)
			before := slices.Clone(v.Nodes)
			spoilNodes(got.Nodes)
			if !slices.Equal(v.Nodes, before) {
				t.Errorf("the argument changed with the answer: %v", v)
			}
		}
	}
}

// shareActs are acts of each Kind, done and refused, with values of several nodes.
func shareActs() []impl.Act {
	return []impl.Act{set("/a", `[7,{"x":[8]}]`), set("/new", `[7,[8]]`), set("/l/3", "[[9]]"), set("/l/9", "[[9]]"), unset("/a"), unset("/none"), unset("/l/0"),
		inc("/a", 5), inc("/new", 5), inc("/l", 5), inc("/a", 1000000000), push("/l", `{"x":[8]}`), push("/new", `{"x":[8]}`), push("/a", "[1]"),
		pull("/l", "[2]"), pull("/l", "[3]"), pull("/none", "[2]"), pull("/a", "[2]"), rename("/l", "a"), rename("/l", "l"), rename("/m", "z"),
		rename("/none", "z"), rename("/l/0", "z"), set("/q/r", "[1]"), {}, {Kind: 7, Path: "/a", Value: impl.NumberOf(1)}}
}

func TestPromise19UpdatesLeaveArgumentsAsTheyWere(t *testing.T) {
	text := `{"a":1,"l":[[2],3,[2]],"m":{"x":{}}}`
	all := broken()
	all[text] = mustRead(t, text)
	all["7"] = mustRead(t, "7")
	behind := []impl.Node{{Kind: impl.KindNumber, Num: 5, Name: "zz"}, {Kind: 99, Text: "behind", Up: 1}}
	acts := shareActs()
	for what, v := range all {
		memory := slices.Concat(v.Nodes, behind)
		before := slices.Clone(memory)
		arg := impl.Value{Nodes: memory[:len(v.Nodes)]}
		for k, a := range acts {
			other := slices.Concat(a.Value.Nodes, behind)
			otherBefore := slices.Clone(other)
			second := impl.Act{Kind: a.Kind, Path: a.Path, Value: impl.Value{Nodes: other[:len(a.Value.Nodes)]}}
			list := []impl.Act{second, unset("/none"), second, {Kind: 98}}
			wantSameUpdate(t, what, arg, v, list[:3], []impl.Act{a, unset("/none"), a})
			if !slices.Equal(memory, before) || !slices.Equal(other, otherBefore) {
				t.Errorf("%s: act %d: written into: %v %v", what, k, memory, other)
			}
			if !sameAct(list[0], a) || !sameAct(list[1], unset("/none")) || !sameAct(list[2], a) || !sameAct(list[3], impl.Act{Kind: 98}) {
				t.Errorf("%s: act %d: the list of acts is written into: %v", what, k, list)
			}
		}
	}
}

func sameAct(a impl.Act, b impl.Act) bool {
	return a.Kind == b.Kind && a.Path == b.Path && sameValue(a.Value, b.Value)
}

// wantSameUpdate asks for the same answers with and without memory behind the lengths, and writes into them.
func wantSameUpdate(t *testing.T, what string, arg impl.Value, v impl.Value, list []impl.Act, bare []impl.Act) {
	t.Helper()
	if impl.GoodAct(list[0]) != impl.GoodAct(bare[0]) {
		t.Errorf("%s: GoodAct reads what lies behind the length: %v", what, bare[0])
	}
	steady, ok := impl.IsSteady(arg, list[0])
	if want, wantOk := impl.IsSteady(v, bare[0]); steady != want || ok != wantOk {
		t.Errorf("%s: IsSteady reads what lies behind the length: %v", what, bare[0])
	}
	for name, call := range updateCalls() {
		got, code := call(arg, list)
		want, wantCode := call(v, bare)
		if code != wantCode || !sameValue(got, want) {
			t.Errorf("%s: %s of %v is %v %d, not %v %d", what, name, bare, got, code, want, wantCode)
		}
		wantNothingBehind(t, what+" "+name, got.Nodes)
		spoilNodes(got.Nodes)
		spoilNodes(want.Nodes)
	}
}

// updateCalls tell all that answer a value; beside a value they tell one number of all else.
func updateCalls() map[string]func(impl.Value, []impl.Act) (impl.Value, int) {
	return map[string]func(impl.Value, []impl.Act) (impl.Value, int){
		"DoAct": func(v impl.Value, l []impl.Act) (impl.Value, int) { return impl.DoAct(v, l[0]) },
		"DoActs": func(v impl.Value, l []impl.Act) (impl.Value, int) {
			got, done, code := impl.DoActs(v, l)
			return got, 100*done + code
		},
		"DoActs of none": func(v impl.Value, l []impl.Act) (impl.Value, int) {
			got, done, code := impl.DoActs(v, l[:0])
			return got, 100*done + code
		},
		"DoActs of too many": func(v impl.Value, l []impl.Act) (impl.Value, int) {
			got, done, code := impl.DoActs(v, slices.Repeat(l[:1], 13))
			return got, 100*done + code
		},
		"PostImage": func(v impl.Value, l []impl.Act) (impl.Value, int) {
			got, ok := impl.PostImage(v, l)
			if ok {
				return got, 1
			}
			return got, 0
		},
	}
}

func TestPromise19UpdateAnswersShareNothing(t *testing.T) {
	text := `{"a":1,"l":[[2],3,[2]],"m":{"x":{}}}`
	for k := range shareActs() {
		for name, call := range updateCalls() {
			v, a := mustRead(t, text), shareActs()[k]
			l := []impl.Act{a, unset("/none")}
			first, _ := call(v, l)
			second, code := call(v, l)
			want := slices.Clone(second.Nodes)
			spoilNodes(first.Nodes)
			third, thirdCode := call(v, l)
			if !slices.Equal(second.Nodes, want) || !slices.Equal(third.Nodes, want) || code != thirdCode {
				t.Errorf("%s of act %d: answers share memory: %v %v", name, k, second, third)
			}
			if !sameValue(v, mustRead(t, text)) || !sameAct(l[0], shareActs()[k]) {
				t.Errorf("%s of act %d: an argument changed with an answer", name, k)
			}
			spoilNodes(v.Nodes)
			spoilNodes(l[0].Value.Nodes)
			l[0] = impl.Act{Kind: 97}
			if !slices.Equal(second.Nodes, want) {
				t.Errorf("%s of act %d: the answer changed with an argument: %v", name, k, second)
			}
		}
	}
}
