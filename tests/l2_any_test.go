package tests

import (
	"slices"
	"strings"
	"testing"

	"loop.example/g00274/impl"
)

// wantNoOrder asks each function of the chapter that takes values for its zero answer.
func wantNoOrder(t *testing.T, what string, a impl.Value, b impl.Value) {
	t.Helper()
	if n, ok := impl.CompareValue(a, b); ok || n != 0 {
		t.Errorf("%s: CompareValue is %d %v", what, n, ok)
	}
	if s, ok := impl.PairKey(a, b); ok || s != "" {
		t.Errorf("%s: PairKey is %q %v", what, s, ok)
	}
	if l, ok := impl.SortValues([]impl.Value{a, b}); ok || len(l) != 0 {
		t.Errorf("%s: SortValues is %v %v", what, l, ok)
	}
}

func badValues() map[string]impl.Value {
	all := broken()
	all["a million nodes"] = impl.Value{Nodes: make([]impl.Node, 1000000)}
	long := strings.Repeat("a", 1000000)
	all["a long text"] = textTree(long).value()
	all["a long name"] = mapOf(long, numberTree(1)).value()
	all["very deep"] = nested(79, numberTree(1)).value()
	return all
}

func TestPromise19OrderOfValuesThatAreNotGood(t *testing.T) {
	good := mustRead(t, `{"a":[1,"b"]}`)
	for what, v := range badValues() {
		if s, ok := impl.KeyOf(v); ok || s != "" {
			t.Errorf("%s: KeyOf is %q %v", what, s, ok)
		}
		wantNoOrder(t, what, v, good)
		wantNoOrder(t, what, good, v)
		wantNoOrder(t, what, v, v)
	}
}

func TestPromise19OrderOfAnyKindAndUp(t *testing.T) {
	base := mustRead(t, `[[1],{"a":2},3]`)
	for k := range base.Nodes {
		for _, n := range []int{least, -1000, -2, -1, 0, 1, 2, 3, 4, 5, 6, 7, 8, 9, 1000, greatest} {
			for _, v := range []impl.Value{changed(base, k, func(x *impl.Node) { x.Kind = n }),
				changed(base, k, func(x *impl.Node) { x.Up = n }),
				changed(base, k, func(x *impl.Node) { x.Num = n })} {
				key, ok := impl.KeyOf(v)
				if want := oracleGood(v); ok != want || !ok && key != "" {
					t.Errorf("KeyOf is %q %v: %v", key, ok, v)
				} else if !want {
					wantNoOrder(t, "changed", v, base)
					wantNoOrder(t, "changed", base, v)
				}
			}
		}
	}
}

func TestPromise19AnyTextAsAKey(t *testing.T) {
	for c := range 256 {
		s := string([]byte{byte(c)})
		for _, key := range []string{s, strings.Repeat(s, 1000000), "\x06" + strings.Repeat(s, 1000), "\x07\x02" + s, "\x05" + strings.Repeat(s, 1000)} {
			v, ok := impl.ReadKey(key)
			if want := len(key) == 1 && c >= 1 && c <= 3; ok != want || !ok && len(v.Nodes) != 0 {
				t.Errorf("ReadKey(%.20q) is %v %v", key, v, ok)
			}
		}
	}
	wantNoKey(t, "many small parts", "\x06"+strings.Repeat("\x06\x00", 1000000)+"\x00")
	wantNoKey(t, "many names", "\x07"+strings.Repeat("\x02a\x01\x01", 1000000)+"\x00")
}

func TestPromise19OrderLeavesArgumentsAsTheyWere(t *testing.T) {
	all := broken()
	for _, s := range []string{"1", `"a"`, "[]", `{"a":[1,{"b":2}],"c":{}}`} {
		all[s] = mustRead(t, s)
	}
	for what, v := range all {
		behind := []impl.Node{{Kind: impl.KindNumber, Num: 5}, {Kind: 99, Text: "behind", Up: 1}}
		memory := slices.Concat(v.Nodes, behind)
		before := slices.Clone(memory)
		arg := impl.Value{Nodes: memory[:len(v.Nodes)]}
		more := []impl.Value{arg, impl.NumberOf(1), {Nodes: behind}}
		key, ok := impl.KeyOf(arg)
		if want, wantOk := impl.KeyOf(v); key != want || ok != wantOk {
			t.Errorf("%s: what lies behind the length is read", what)
		}
		impl.CompareValue(arg, arg)
		impl.PairKey(arg, arg)
		l, _ := impl.SortValues(more[:2])
		for _, x := range l {
			spoilNodes(x.Nodes)
		}
		spoilValues(l)
		if !slices.Equal(memory, before) {
			t.Errorf("%s: written into: %v", what, memory)
		}
		if !sameValue(more[0], arg) || !sameValue(more[1], impl.NumberOf(1)) || &more[2].Nodes[0] != &behind[0] {
			t.Errorf("%s: the list is written into: %v", what, more)
		}
	}
}

func spoilValues(l []impl.Value) {
	for k := range l {
		l[k] = impl.Value{}
	}
	_ = append(l, impl.Value{})
}

func TestPromise19SortValuesSharesNothing(t *testing.T) {
	want := []string{"1", "2", `[3]`}
	one := func() []impl.Value {
		return []impl.Value{mustRead(t, "[3]"), impl.NumberOf(2), impl.NumberOf(1)}
	}
	l := one()
	first, _ := impl.SortValues(l)
	second, _ := impl.SortValues(l)
	// One value that is spoilt, or lengthened, must leave the others of the same answer.
	_ = append(first[0].Nodes, impl.Node{Kind: 77})
	if got := textsOf(t, first); !slices.Equal(got, want) {
		t.Errorf("one answer's values share memory: %v", got)
	}
	for _, v := range first {
		spoilNodes(v.Nodes)
	}
	spoilValues(first)
	if got := textsOf(t, second); !slices.Equal(got, want) {
		t.Errorf("two answers share memory: %v", got)
	}
	if got := textsOf(t, l); !slices.Equal(got, []string{"[3]", "2", "1"}) {
		t.Errorf("the argument is %v", got)
	}
	for _, v := range l {
		spoilNodes(v.Nodes)
	}
	if got := textsOf(t, second); !slices.Equal(got, want) {
		t.Errorf("an answer changed with its argument: %v", got)
	}
}

func TestPromise19SortValuesOfOneValueTwice(t *testing.T) {
	v := mustRead(t, "[3]")
	l, _ := impl.SortValues([]impl.Value{v, v})
	spoilNodes(l[0].Nodes)
	if got := textsOf(t, []impl.Value{l[1], v}); !slices.Equal(got, []string{"[3]", "[3]"}) {
		t.Errorf("two values of one answer share memory: %v", got)
	}
}

func TestPromise19ReadKeySharesNothing(t *testing.T) {
	key := mustKey(t, mustRead(t, `{"a":[1,"b"]}`))
	first, _ := impl.ReadKey(key)
	second, _ := impl.ReadKey(key)
	spoilNodes(first.Nodes)
	if third, ok := impl.ReadKey(key); !ok || !sameValue(second, third) || mustKey(t, second) != key {
		t.Errorf("answers share memory: %v %v", second, third)
	}
}
