package tests

import (
	"slices"
	"testing"

	"loop.example/g00274/impl"
)

func patchCalls() map[string]ofTwo {
	return map[string]ofTwo{"ApplyPatch": impl.ApplyPatch, "DiffOf": impl.DiffOf, "JoinPatches": impl.JoinPatches}
}

// wantNoPatch asks each function of the chapter for its zero answer, with the value in each place.
func wantNoPatch(t *testing.T, what string, v impl.Value) {
	t.Helper()
	for _, text := range []string{"null", "1", "[]", "{}", `{"a":1,"b":{"c":[2]}}`} {
		good := mustRead(t, text)
		for name, call := range patchCalls() {
			for _, args := range [][2]impl.Value{{v, good}, {good, v}, {v, v}} {
				if got, ok := call(args[0], args[1]); ok || len(got.Nodes) != 0 {
					t.Errorf("%s: %s beside %s is %v %v", what, name, text, got, ok)
				}
			}
		}
	}
	if clean, ok := impl.IsClean(v); ok || clean {
		t.Errorf("%s: IsClean is %v %v", what, clean, ok)
	}
	if got, ok := impl.CleanOf(v); ok || len(got.Nodes) != 0 {
		t.Errorf("%s: CleanOf is %v %v", what, got, ok)
	}
}

func TestPromise19PatchesOfValuesThatAreNotGood(t *testing.T) {
	for what, v := range badValues() {
		wantNoPatch(t, what, v)
	}
}

func TestPromise19PatchesOfAnyKindAndUp(t *testing.T) {
	base := mustRead(t, `{"a":{"b":null},"c":[2]}`)
	for k := range base.Nodes {
		for _, n := range []int{least, -1000, -2, -1, 0, 1, 2, 3, 4, 5, 6, 7, 8, 9, 1000, greatest} {
			for _, v := range []impl.Value{changed(base, k, func(x *impl.Node) { x.Kind = n }),
				changed(base, k, func(x *impl.Node) { x.Up = n }),
				changed(base, k, func(x *impl.Node) { x.Num = n })} {
				clean, ok := impl.IsClean(v)
				if want := oracleGood(v); ok != want {
					t.Errorf("IsClean is %v %v: %v", clean, ok, v)
				} else if !want {
					wantNoPatch(t, "changed", v)
				}
			}
		}
	}
}

func TestPromise19PatchesOfMapsWhoseNamesDoNotRise(t *testing.T) {
	for _, names := range [][]string{{"b", "a"}, {"a", "a"}, {"a", "c", "b"}, {"", ""}} {
		x := tree{kind: impl.KindMap, names: names, kids: slices.Repeat([]tree{nullTree}, len(names))}
		wantNoPatch(t, "names", x.value())
		wantNoPatch(t, "names below", mapOf("a", x).value())
	}
}

func TestPromise19PatchesLeaveArgumentsAsTheyWere(t *testing.T) {
	all := badValues()
	for _, s := range []string{"null", "1", "[null]", "{}", `{"a":null}`, `{"a":[1,{"b":null}],"c":{"d":null,"e":2},"f":3}`, `{"c":{"d":1,"g":{}}}`} {
		all[s] = mustRead(t, s)
	}
	delete(all, "a million nodes")
	behind := []impl.Node{{Kind: impl.KindNumber, Num: 5, Name: "z"}, {Kind: impl.KindNull, Name: "zz"}}
	for what, v := range all {
		for _, s := range []string{"5", `{"a":[null],"c":{"d":7,"h":[]}}`, `{"a":null,"c":{"e":null}}`} {
			w := mustRead(t, s)
			memory, other := slices.Concat(v.Nodes, behind), slices.Concat(w.Nodes, behind)
			before, otherBefore := slices.Clone(memory), slices.Clone(other)
			arg, second := impl.Value{Nodes: memory[:len(v.Nodes)]}, impl.Value{Nodes: other[:len(w.Nodes)]}
			for name, call := range patchCalls() {
				wantSameOfTwo(t, what+" "+name, call, arg, second, v, w)
				wantSameOfTwo(t, what+" "+name, call, second, arg, w, v)
				wantSameOfTwo(t, what+" "+name, call, arg, arg, v, v)
			}
			clean := func(v impl.Value, _ impl.Value) (impl.Value, bool) { return impl.CleanOf(v) }
			wantSameOfTwo(t, what+" CleanOf", clean, arg, second, v, w)
			is, ok := impl.IsClean(arg)
			if want, wantOk := impl.IsClean(v); is != want || ok != wantOk {
				t.Errorf("%s: IsClean reads what lies behind the length", what)
			}
			if !slices.Equal(memory, before) || !slices.Equal(other, otherBefore) {
				t.Errorf("%s: written into: %v %v", what, memory, other)
			}
		}
	}
}

// wantSameOfTwo asks for the same answer with and without memory behind the lengths, and writes into it.
func wantSameOfTwo(t *testing.T, what string, call ofTwo, a impl.Value, b impl.Value, bareA impl.Value, bareB impl.Value) {
	t.Helper()
	got, ok := call(a, b)
	want, wantOk := call(bareA, bareB)
	if ok != wantOk || !sameValue(got, want) {
		t.Errorf("%s is %v %v, not %v %v", what, got, ok, want, wantOk)
	}
	wantNothingBehind(t, what, got.Nodes)
	spoilNodes(got.Nodes)
	spoilNodes(want.Nodes)
}

func TestPromise19PatchAnswersShareNothing(t *testing.T) {
	texts := []string{"5", "[1,[2]]", "{}", `{"a":[1,{"b":2}],"c":{"d":3}}`, `{"a":[1],"c":{"d":4,"e":{"f":5}},"g":[]}`}
	calls := patchCalls()
	calls["CleanOf"] = func(v impl.Value, _ impl.Value) (impl.Value, bool) { return impl.CleanOf(v) }
	for name, call := range calls {
		for _, one := range texts {
			for _, two := range texts {
				v, w := mustRead(t, one), mustRead(t, two)
				first, _ := call(v, w)
				second, ok := call(v, w)
				want := slices.Clone(second.Nodes)
				spoilNodes(first.Nodes)
				third, thirdOk := call(v, w)
				if !slices.Equal(second.Nodes, want) || !slices.Equal(third.Nodes, want) || ok != thirdOk {
					t.Errorf("%s(%s, %s): answers share memory: %v %v", name, one, two, second, third)
				}
				if !sameValue(v, mustRead(t, one)) || !sameValue(w, mustRead(t, two)) {
					t.Errorf("%s(%s, %s): an argument changed with an answer", name, one, two)
				}
				spoilNodes(v.Nodes)
				spoilNodes(w.Nodes)
				if !slices.Equal(second.Nodes, want) {
					t.Errorf("%s(%s, %s): the answer changed with an argument: %v", name, one, two, second)
				}
			}
		}
	}
}
