package tests

import (
	"maps"
	"slices"
	"strings"
	"testing"

	"loop.example/g00274/impl"
)

func oracleIsBeginning(s string) bool {
	return len(s) <= 20 && strings.Trim(s, "abcdefghijklmnopqrstuvwxyz") == ""
}

func oracleIsName(s string) bool {
	return s != "" && oracleIsBeginning(s)
}

// oracleAreNames says whether a list is one that has a radix.
func oracleAreNames(names []string) bool {
	unlike := map[string]int{}
	for _, name := range names {
		if !oracleIsName(name) {
			return false
		}
		unlike[name]++
	}
	return len(names) <= 40 && len(unlike) == len(names)
}

func oracleCommonStart(a string, b string) string {
	for !strings.HasPrefix(a, b) {
		b = b[:len(b)-1]
	}
	return b
}

// oracleStops are the texts at which an edge ends: the empty one, each name, and what any two names have in common.
func oracleStops(names []string) []string {
	stops := append([]string{""}, names...)
	for _, a := range names {
		for _, b := range names {
			stops = append(stops, oracleCommonStart(a, b))
		}
	}
	slices.Sort(stops)
	return slices.Compact(stops)
}

// oracleRadix tells edges from the stops in their order, without a tree: above each is the longest one that it begins with.
func oracleRadix(names []string) impl.Radix {
	stops := oracleStops(names)
	var r impl.Radix
	for k, stop := range stops {
		e := impl.Edge{Name: slices.Contains(names, stop), Up: -1}
		for above, other := range stops[:k] {
			if strings.HasPrefix(stop, other) {
				e.Up, e.Text = above, stop[len(other):]
			}
		}
		r.Edges = append(r.Edges, e)
	}
	return r
}

// oracleLooks counts the stops on the way along a name, the empty one among them.
func oracleLooks(names []string, name string) int {
	many := 0
	for _, stop := range oracleStops(names) {
		if strings.HasPrefix(name, stop) {
			many++
		}
	}
	return many
}

func oracleWithPrefix(names []string, prefix string) []string {
	var found []string
	for _, name := range slices.Sorted(slices.Values(names)) {
		if strings.HasPrefix(name, prefix) {
			found = append(found, name)
		}
	}
	return found
}

func oracleLongest(names []string, s string) string {
	longest := ""
	for _, name := range names {
		if strings.HasPrefix(s, name) && len(name) > len(longest) {
			longest = name
		}
	}
	return longest
}

// oracleIsBelow goes up from an edge of which each Up is one ahead.
func oracleIsBelow(edges []impl.Edge, k int, above int) bool {
	for k > above {
		k = edges[k].Up
	}
	return k == above
}

func oracleWhole(edges []impl.Edge, k int) string {
	if k == 0 {
		return edges[0].Text
	}
	return oracleWhole(edges, edges[k].Up) + edges[k].Text
}

// oracleGoodRadix asks rule by rule.
func oracleGoodRadix(r impl.Radix) bool {
	if len(r.Edges) == 0 || r.Edges[0] != (impl.Edge{Up: -1}) {
		return false
	}
	for k, e := range r.Edges[1:] {
		if e.Up < 0 || e.Up > k || !oracleIsName(e.Text) {
			return false
		}
	}
	names := 0
	for k, e := range r.Edges {
		if !oracleStandsRight(r.Edges, k) {
			return false
		}
		if e.Name {
			names++
		}
		if e.Name && !oracleIsName(oracleWhole(r.Edges, k)) {
			return false
		}
	}
	return names <= 40
}

// oracleStandsRight asks for the order of all below an edge, and how many are right below it.
func oracleStandsRight(edges []impl.Edge, k int) bool {
	var below, kids []int
	for other := k + 1; other < len(edges); other++ {
		if oracleIsBelow(edges, other, k) {
			below = append(below, other)
		}
		if edges[other].Up == k {
			kids = append(kids, other)
		}
	}
	if len(below) > 0 && below[len(below)-1] != k+len(below) {
		return false
	}
	for n := 1; n < len(kids); n++ {
		if edges[kids[n-1]].Text[0] >= edges[kids[n]].Text[0] {
			return false
		}
	}
	return k == 0 || edges[k].Name || len(kids) >= 2
}

func sameRadix(a impl.Radix, b impl.Radix) bool {
	return slices.Equal(a.Edges, b.Edges)
}

func wantRadix(t *testing.T, what string, got impl.Radix, ok bool, names []string) {
	t.Helper()
	if want := oracleRadix(names); !ok || !sameRadix(got, want) {
		t.Errorf("%s of %q is %v %v, not %v", what, names, got, ok, want)
	}
	if !oracleGoodRadix(got) || !impl.GoodRadix(got) {
		t.Errorf("%s of %q is not good: %v", what, names, got)
	}
}

func wantRadixOf(t *testing.T, names []string) {
	t.Helper()
	got, ok := impl.RadixOf(names)
	wantRadix(t, "RadixOf", got, ok, names)
}

func wantZeroRadix(t *testing.T, what string, got impl.Radix, ok bool) {
	t.Helper()
	if ok || len(got.Edges) != 0 {
		t.Errorf("%s is %v %v", what, got, ok)
	}
}

func wantNoRadixOf(t *testing.T, what string, names []string) {
	t.Helper()
	got, ok := impl.RadixOf(names)
	wantZeroRadix(t, what+": RadixOf", got, ok)
}

func wantNames(t *testing.T, names []string) {
	t.Helper()
	if got, ok := impl.NamesIn(oracleRadix(names)); !ok || !slices.Equal(got, slices.Sorted(slices.Values(names))) {
		t.Errorf("NamesIn of %q is %q %v", names, got, ok)
	}
}

// wantHas asks for a name's own answer, or for none where the text is no name.
func wantHas(t *testing.T, names []string, name string) {
	t.Helper()
	has, looks, ok := impl.HasName(oracleRadix(names), name)
	if !oracleIsName(name) {
		if has || looks != 0 || ok {
			t.Errorf("%q is no name, but HasName is %v %d %v", name, has, looks, ok)
		}
		return
	}
	if !ok || has != slices.Contains(names, name) || looks != oracleLooks(names, name) {
		t.Errorf("%q in %q: HasName is %v %d %v, not by %d looks", name, names, has, looks, ok, oracleLooks(names, name))
	}
}

func wantBeginning(t *testing.T, names []string, prefix string) {
	t.Helper()
	got, ok := impl.WithPrefix(oracleRadix(names), prefix)
	if !oracleIsBeginning(prefix) {
		if ok || len(got) != 0 {
			t.Errorf("no name begins with %q, but WithPrefix is %q %v", prefix, got, ok)
		}
		return
	}
	if want := oracleWithPrefix(names, prefix); !ok || !slices.Equal(got, want) {
		t.Errorf("%q in %q: WithPrefix is %q %v, not %q", prefix, names, got, ok, want)
	}
}

func wantLongest(t *testing.T, names []string, s string) {
	t.Helper()
	want := oracleLongest(names, s)
	if len(s) > 60 {
		want = ""
	}
	if got, ok := impl.LongestPrefix(oracleRadix(names), s); got != want || ok != (want != "") {
		t.Errorf("%q in %q: LongestPrefix is %q %v, not %q", s, names, got, ok, want)
	}
}

func withText(names []string, name string) []string {
	return append(slices.Clone(names), name)
}

func withoutText(names []string, name string) []string {
	return slices.DeleteFunc(slices.Clone(names), func(other string) bool { return other == name })
}

func wantPut(t *testing.T, names []string, name string) {
	t.Helper()
	got, ok := impl.PutName(oracleRadix(names), name)
	if more := withText(names, name); oracleAreNames(more) {
		wantRadix(t, "PutName "+name, got, ok, more)
	} else {
		wantZeroRadix(t, "PutName "+name, got, ok)
	}
}

func wantCut(t *testing.T, names []string, name string) {
	t.Helper()
	got, ok := impl.CutName(oracleRadix(names), name)
	if slices.Contains(names, name) {
		wantRadix(t, "CutName "+name, got, ok, withoutText(names, name))
	} else {
		wantZeroRadix(t, "CutName "+name, got, ok)
	}
}

// wantAllOfText asks each function that takes a text beside a radix.
func wantAllOfText(t *testing.T, names []string, s string) {
	t.Helper()
	wantHas(t, names, s)
	wantBeginning(t, names, s)
	wantLongest(t, names, s)
	wantPut(t, names, s)
	wantCut(t, names, s)
}

// nearTexts are all beginnings of names, also changed in their last byte, and texts that go beyond them.
func nearTexts(names []string) []string {
	near := []string{"", "a", "z", "nowhere"}
	for _, name := range names {
		for length := range len(name) {
			near = append(near, name[:length+1], name[:length]+"a", name[:length]+"z", name[:length]+"q")
		}
		near = append(near, name+"a", name+"z", name+name, name+" ")
	}
	slices.Sort(near)
	return slices.Compact(near)
}

func lettersOf(first int, many int) []string {
	var names []string
	for k := range many {
		names = append(names, string([]byte{byte('a' + first + k)}))
	}
	return names
}

// codedNames are so many of six bytes behind a beginning that fork by two at each stop.
func codedNames(beginning string, many int) []string {
	var names []string
	for n := range many {
		code := ""
		for bit := range 6 {
			code += "ab"[n>>(5-bit)&1:][:1]
		}
		names = append(names, beginning+code)
	}
	return names
}

// chainNames begin each the next one.
func chainNames(c string, many int) []string {
	var names []string
	for k := range many {
		names = append(names, strings.Repeat(c, k+1))
	}
	return names
}

// combNames leave one after the other a row of the same letter.
func combNames(many int) []string {
	var names []string
	for k := range many {
		names = append(names, strings.Repeat("m", k)+"az"[k%2:][:1])
	}
	return names
}

// namedSets are names at the edges of what can be said of them, and ordinary ones.
func namedSets() map[string][]string {
	twenty := strings.Repeat("abcde", 4)
	return map[string][]string{
		"none":                         nil,
		"one letter":                   {"a"},
		"one":                          {"romane"},
		"one of 20 bytes":              {twenty},
		"two that share nothing":       {"zoo", "ant"},
		"two that share all but one":   {"same", "sama"},
		"two of 20 bytes":              {twenty, twenty[:19] + "f"},
		"the one begins the other":     {"rom", "roman"},
		"the one begins by a letter":   {"a", "ab"},
		"the longest begun by a byte":  {twenty[:1], twenty},
		"the longest begun by 19":      {twenty[:19], twenty},
		"one begins two":               {"rom", "romane", "romulus"},
		"four":                         {"romane", "romanus", "rom", "ruber"},
		"seven":                        {"romane", "romanus", "romulus", "rubens", "ruber", "rubicon", "rubicundus"},
		"toast":                        {"test", "toaster", "toasting", "slow", "slowly", "toast", "toasted"},
		"all letters":                  lettersOf(0, 26),
		"all letters and one begun":    append(lettersOf(0, 26), "aa", "zz", "mno"),
		"each begins the next":         chainNames("a", 20),
		"each begins the next, twice":  slices.Concat(chainNames("z", 20), chainNames("y", 20)),
		"one leaves after the other":   combNames(20),
		"forty in pairs":               codedNames("", 40),
		"forty behind one beginning":   codedNames("q", 40),
		"forty of 20 bytes":            codedNames(twenty[:14], 40),
		"forty, some begun by others":  append(codedNames("", 34), "a", "ab", "aba", "abab", "ababab"+"c", "b"),
		"thirty nine":                  codedNames("no", 39),
		"letters at both ends":         {"a", "z", "az", "za", "aa", "zz", "azaz", "zaza"},
		"begun at each of two letters": {"ab", "abab", "ababab", "aba", "a", "abb"},
	}
}

func someSets() [][]string {
	all := namedSets()
	var sets [][]string
	for _, what := range slices.Sorted(maps.Keys(all)) {
		sets = append(sets, all[what])
	}
	return sets
}

// names tells at most so many of few letters, so that they share much.
func (d *dice) names(most int) []string {
	letters := []string{"a", "ab", "abc", "az", "abcdefghijklmnopqrstuvwxyz"}[d.below(5)]
	longest := []int{2, 3, 5, 20}[d.below(4)]
	var names []string
	for range d.below(most + 1) {
		name := d.textOf(letters, 1+d.below(longest))
		if !slices.Contains(names, name) {
			names = append(names, name)
		}
	}
	return names
}

func mixed[E any](d *dice, l []E) []E {
	made := slices.Clone(l)
	for k := range made {
		other := d.below(k + 1)
		made[k], made[other] = made[other], made[k]
	}
	return made
}
