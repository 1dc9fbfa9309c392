package tests

import (
	"slices"
	"strings"
	"testing"

	"loop.example/g00274/impl"
)

func TestPromise13Constants(t *testing.T) {
	if impl.MaxNames != 40 {
		t.Error(impl.MaxNames)
	}
}

func TestPromise13EdgesWrittenOut(t *testing.T) {
	for _, x := range []struct {
		names []string
		edges []impl.Edge
	}{
		{nil, []impl.Edge{{Up: -1}}},
		{[]string{"a"}, []impl.Edge{{Up: -1}, {Text: "a", Name: true}}},
		{[]string{"rom"}, []impl.Edge{{Up: -1}, {Text: "rom", Name: true}}},
		{[]string{"b", "a"}, []impl.Edge{{Up: -1}, {Text: "a", Name: true}, {Text: "b", Name: true}}},
		{[]string{"ab", "a"}, []impl.Edge{{Up: -1}, {Text: "a", Name: true}, {Text: "b", Name: true, Up: 1}}},
		{[]string{"ac", "ab"}, []impl.Edge{{Up: -1}, {Text: "a"}, {Text: "b", Name: true, Up: 1}, {Text: "c", Name: true, Up: 1}}},
		{[]string{"romane", "romanus", "rom", "ruber"}, []impl.Edge{
			{Up: -1},
			{Text: "r"},
			{Text: "om", Name: true, Up: 1},
			{Text: "an", Up: 2},
			{Text: "e", Name: true, Up: 3},
			{Text: "us", Name: true, Up: 3},
			{Text: "uber", Name: true, Up: 1},
		}},
	} {
		got, ok := impl.RadixOf(x.names)
		if !ok || !slices.Equal(got.Edges, x.edges) {
			t.Errorf("RadixOf(%q) is %v %v, not %v", x.names, got, ok, x.edges)
		}
		if !sameRadix(oracleRadix(x.names), impl.Radix{Edges: x.edges}) || !impl.GoodRadix(impl.Radix{Edges: x.edges}) {
			t.Errorf("of %q: not good: %v", x.names, x.edges)
		}
	}
}

func TestPromise13NamedSets(t *testing.T) {
	for _, names := range someSets() {
		if !oracleAreNames(names) {
			t.Fatalf("no names: %q", names)
		}
		wantRadixOf(t, names)
		wantNames(t, names)
	}
}

func TestPromise13ManySets(t *testing.T) {
	d := &dice{state: 131}
	for range 400 {
		names := d.names(40)
		wantRadixOf(t, names)
		wantNames(t, names)
	}
}

func TestPromise13AllSetsOfFewNames(t *testing.T) {
	texts := eachText("ab", 3)[1:]
	for set := range 1 << len(texts) {
		if set%7 != 0 && set > 1<<10 {
			continue
		}
		var names []string
		for k, text := range texts {
			if set>>k&1 == 1 {
				names = append(names, text)
			}
		}
		wantRadixOf(t, names)
		wantNames(t, names)
	}
}

func TestPromise13OneRadixInEveryOrder(t *testing.T) {
	for _, names := range [][]string{
		{"romane", "romanus", "rom", "ruber", "r"},
		{"a", "b", "c", "d", "e"},
		{"a", "aa", "aaa", "aaaa", "aaaaa"},
		{"ab", "abab", "aba", "a", "abb"},
		{"aab", "aac", "ab", "ac", "b"},
		{"caa", "cab", "cba", "cbb", "c"},
	} {
		eachOrder(pairsOf(names...), func(order pairs) {
			got, ok := impl.RadixOf(order.keys())
			wantRadix(t, "RadixOf in some order", got, ok, names)
		})
	}
	d := &dice{state: 132}
	for _, names := range someSets() {
		for range 6 {
			wantRadixOf(t, mixed(d, names))
		}
		backwards := slices.Sorted(slices.Values(names))
		wantRadixOf(t, backwards)
		slices.Reverse(backwards)
		wantRadixOf(t, backwards)
	}
}

// No two sets have one radix: its names are those of the set.
func TestPromise13UnlikeSetsHaveUnlikeRadixes(t *testing.T) {
	sets := map[string]string{}
	for set := range 1 << 6 {
		var names []string
		for k, text := range []string{"a", "b", "aa", "ab", "aab", "aba"} {
			if set>>k&1 == 1 {
				names = append(names, text)
			}
		}
		r, _ := impl.RadixOf(names)
		told := edgesPiece(slices.Clip(r.Edges)).tell()
		if other, twice := sets[told]; twice {
			t.Errorf("%q and %q have one radix", names, other)
		}
		sets[told] = strings.Join(names, " ")
	}
}

func TestPromise13ANameTwice(t *testing.T) {
	for _, names := range someSets() {
		for k, name := range names {
			wantNoRadixOf(t, "twice, at the end", withText(names, name))
			wantNoRadixOf(t, "twice, at the front", slices.Concat([]string{name}, names))
			if k > 0 {
				changed := slices.Clone(names)
				changed[k-1] = name
				wantNoRadixOf(t, "twice, in place of another", changed)
			}
		}
	}
	wantNoRadixOf(t, "three times", []string{"a", "a", "a"})
}

func TestPromise13ListsWithATextThatIsNoName(t *testing.T) {
	bad := []string{"", " ", "A", "aB", "a b", "a-b", "a1", "é", "a\x00", "\xff", "`", "{", "a`", "{a", strings.Repeat("a", 21), strings.Repeat("z", 1000000)}
	for _, names := range [][]string{nil, {"rom"}, {"rom", "roman"}, combNames(20), codedNames("q", 39)} {
		for _, text := range bad {
			for at := range len(names) + 1 {
				wantNoRadixOf(t, "no name", slices.Insert(slices.Clone(names), at, text))
			}
		}
	}
}

func TestPromise13NamesOfEachByte(t *testing.T) {
	for c := range 256 {
		one := string([]byte{byte(c)})
		for _, name := range []string{one, "a" + one, one + "a", "roma" + one, "rom" + one + "ne", strings.Repeat("z", 19) + one} {
			names := []string{"romane", name}
			if c >= 'a' && c <= 'z' && name != "romane" {
				wantRadixOf(t, names)
			} else {
				wantNoRadixOf(t, "a byte", names)
			}
		}
	}
}

func TestPromise13NamesOfEachLength(t *testing.T) {
	for _, whole := range []string{strings.Repeat("a", 30), strings.Repeat("zyx", 10), "abcdefghijklmnopqrstuvwxyzabcd"} {
		for length := range 31 {
			for _, others := range [][]string{nil, {"b"}, {whole[:1] + "q"}, {whole[:20]}, {whole[:19] + "q"}} {
				names := withText(others, whole[:length])
				if oracleAreNames(names) {
					wantRadixOf(t, names)
				} else {
					wantNoRadixOf(t, "so long", names)
				}
			}
		}
	}
}

func TestPromise13JustMaxNamesAndOneMore(t *testing.T) {
	for _, names := range [][]string{codedNames("", 41), codedNames("q", 41), codedNames("abcdefghijklmn", 41), append(chainNames("a", 20), append(chainNames("b", 20), "c")...)} {
		for many := 38; many <= 41; many++ {
			if many <= 40 {
				wantRadixOf(t, names[:many])
				wantNames(t, names[:many])
			} else {
				wantNoRadixOf(t, "one more", names[:many])
			}
		}
		wantNoRadixOf(t, "one more, that is there", withText(names[:40], names[0]))
		wantNoRadixOf(t, "many more", slices.Repeat(names, 1000))
	}
	// Forty names have at most a fork less than there are names, above these the root.
	if r, ok := impl.RadixOf(codedNames("q", 40)); !ok || len(r.Edges) != 80 {
		t.Errorf("%d edges, %v", len(r.Edges), ok)
	}
}

func TestPromise13NamesInOrder(t *testing.T) {
	r := oracleRadix([]string{"slowly", "toasting", "test", "slow", "toaster", "z", "toast", "a"})
	want := []string{"a", "slow", "slowly", "test", "toast", "toaster", "toasting", "z"}
	if got, ok := impl.NamesIn(r); !ok || !slices.Equal(got, want) {
		t.Errorf("NamesIn is %q %v", got, ok)
	}
	if got, ok := impl.NamesIn(oracleRadix(nil)); !ok || len(got) != 0 {
		t.Errorf("NamesIn of no names is %q %v", got, ok)
	}
}

// What is told by its names is made of them again.
func TestPromise13RadixesComeBackFromTheirNames(t *testing.T) {
	d := &dice{state: 133}
	for range 300 {
		first, ok := impl.RadixOf(d.names(40))
		names, namesOk := impl.NamesIn(first)
		second, again := impl.RadixOf(names)
		if !ok || !namesOk || !again || !sameRadix(first, second) {
			t.Errorf("%v is not %v", second, first)
		}
	}
}
