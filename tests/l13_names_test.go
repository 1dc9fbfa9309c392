package tests

import (
	"slices"
	"strings"
	"testing"

	"loop.example/g00274/impl"
)

func TestPromise13HasNameWrittenOut(t *testing.T) {
	r := oracleRadix([]string{"romane", "romanus", "rom", "ruber"})
	for _, x := range []struct {
		name  string
		has   bool
		looks int
	}{
		{"romanus", true, 5},
		{"romane", true, 5},
		{"rom", true, 3},
		{"ruber", true, 3},
		{"roman", false, 4}, // the fork's own text
		{"r", false, 2},     // the fork's own text
		{"ro", false, 2},    // within an edge
		{"roma", false, 3},  // within an edge
		{"romanu", false, 4},
		{"rube", false, 2},
		{"romanes", false, 5}, // beyond a name
		{"rubers", false, 3},
		{"romance", false, 4}, // nothing goes on so
		{"romulus", false, 3},
		{"rx", false, 2},
		{"s", false, 1}, // nothing begins so
		{"a", false, 1},
		{strings.Repeat("r", 20), false, 2},
	} {
		if has, looks, ok := impl.HasName(r, x.name); has != x.has || looks != x.looks || !ok {
			t.Errorf("HasName(%q) is %v %d %v, not %v %d", x.name, has, looks, ok, x.has, x.looks)
		}
	}
	if has, looks, ok := impl.HasName(oracleRadix(nil), "a"); has || looks != 1 || !ok {
		t.Errorf("HasName of no names is %v %d %v", has, looks, ok)
	}
	if has, looks, ok := impl.HasName(oracleRadix(chainNames("a", 20)), strings.Repeat("a", 20)); !has || looks != 21 || !ok {
		t.Errorf("HasName of the deepest one is %v %d %v", has, looks, ok)
	}
}

func TestPromise13HasNameOfWhatIsNoName(t *testing.T) {
	for _, names := range someSets() {
		for _, s := range []string{"", "A", "a ", " a", "a1", "\x00", "é", strings.Repeat("a", 21), strings.Repeat("abcde", 5)} {
			wantHas(t, names, s)
		}
		for _, name := range names {
			wantHas(t, names, name+" ")
			wantHas(t, names, strings.ToUpper(name))
			wantHas(t, names, name+strings.Repeat("a", 21-len(name)))
			wantHas(t, names, name+strings.Repeat("a", 20-len(name)))
		}
	}
}

func TestPromise13EachNameIsFoundAndNothingElse(t *testing.T) {
	for _, names := range someSets() {
		for _, s := range nearTexts(names) {
			wantHas(t, names, s)
		}
	}
}

func TestPromise13WithPrefixWrittenOut(t *testing.T) {
	r := oracleRadix([]string{"romane", "romanus", "rom", "ruber"})
	for prefix, want := range map[string][]string{
		"":        {"rom", "romane", "romanus", "ruber"},
		"r":       {"rom", "romane", "romanus", "ruber"},
		"ro":      {"rom", "romane", "romanus"},
		"rom":     {"rom", "romane", "romanus"},
		"roma":    {"romane", "romanus"},
		"roman":   {"romane", "romanus"},
		"romane":  {"romane"},
		"romanu":  {"romanus"},
		"ru":      {"ruber"},
		"ruber":   {"ruber"},
		"romanes": nil,
		"rubers":  nil,
		"romb":    nil,
		"rx":      nil,
		"s":       nil,
		"om":      nil,
	} {
		if got, ok := impl.WithPrefix(r, prefix); !ok || !slices.Equal(got, want) {
			t.Errorf("WithPrefix(%q) is %q %v, not %q", prefix, got, ok, want)
		}
	}
}

func TestPromise13WithPrefixOfEachBeginning(t *testing.T) {
	for _, names := range someSets() {
		for _, s := range nearTexts(names) {
			wantBeginning(t, names, s)
		}
	}
}

func TestPromise13WithPrefixAtItsLimits(t *testing.T) {
	twenty := strings.Repeat("abcde", 4)
	for _, names := range append(someSets(), []string{twenty}, []string{twenty, twenty[:19]}) {
		for _, s := range []string{twenty, twenty + "a", twenty[:19], strings.Repeat("z", 20), strings.Repeat("z", 21), strings.Repeat("a", 1000000)} {
			wantBeginning(t, names, s)
		}
		for c := range 256 {
			wantBeginning(t, names, string([]byte{byte(c)}))
			wantBeginning(t, names, string([]byte{'a', byte(c)}))
			wantBeginning(t, names, string([]byte{byte(c), 'o'}))
		}
	}
}

func TestPromise13LongestPrefixWrittenOut(t *testing.T) {
	r := oracleRadix([]string{"romane", "romanus", "rom", "ruber"})
	for s, want := range map[string]string{
		"rom":                             "rom",
		"romane":                          "romane",
		"romanes":                         "romane",
		"roman":                           "rom",
		"romance":                         "rom",
		"romanu":                          "rom",
		"rom anus":                        "rom",
		"rom\x00":                         "rom",
		"romé":                            "rom",
		"ROM":                             "",
		"":                                "",
		"r":                               "",
		"ro":                              "",
		"rube":                            "",
		"xrom":                            "",
		" rom":                            "",
		"ruber" + strings.Repeat("~", 55): "ruber",
		"ruber" + strings.Repeat("r", 56): "",
	} {
		if got, ok := impl.LongestPrefix(r, s); got != want || ok != (want != "") {
			t.Errorf("LongestPrefix(%q) is %q %v, not %q", s, got, ok, want)
		}
	}
}

// Of several names with which a text begins the longest one is told, of as many as there are.
func TestPromise13LongestPrefixOfSeveral(t *testing.T) {
	chain := chainNames("a", 20)
	for length := range 63 {
		for _, names := range [][]string{chain, chain[:10], chain[5:], {chain[0], chain[19]}, {chain[3], chain[9], "b"}, nil} {
			wantLongest(t, names, strings.Repeat("a", length))
			wantLongest(t, names, strings.Repeat("a", min(length, 15))+strings.Repeat("b", length))
		}
	}
}

func TestPromise13LongestPrefixOfNearTexts(t *testing.T) {
	for _, names := range someSets() {
		for _, s := range nearTexts(names) {
			wantLongest(t, names, s)
			wantLongest(t, names, s+"\xff and so on")
		}
		for _, name := range names {
			for _, length := range []int{59, 60, 61, 1000} {
				wantLongest(t, names, name+strings.Repeat("y", length-len(name)))
				wantLongest(t, names, strings.Repeat(name, length)[:length])
			}
		}
	}
}

func TestPromise13ManyTextsInManySets(t *testing.T) {
	d := &dice{state: 135}
	for range 150 {
		names := d.names(40)
		for range 12 {
			s := d.textOf("abz", d.below(6))
			if len(names) > 0 && d.below(2) == 0 {
				name := names[d.below(len(names))]
				s = name[:d.below(len(name)+1)] + d.textOf("abz", d.below(3))
			}
			wantAllOfText(t, names, s)
		}
	}
}

func TestPromise13PutAndCutWrittenOut(t *testing.T) {
	names := []string{"romane", "romanus", "rom", "ruber"}
	for _, name := range []string{
		"r",      // a fork becomes a name
		"roman",  // a fork becomes a name
		"ro",     // an edge is forked, by a name
		"rub",    // the last edge is forked, by a name
		"romb",   // behind what goes on below a name
		"romaa",  // an edge is forked, ahead of what it had
		"romaz",  // an edge is forked, behind what it had
		"romana", // ahead of all at a fork
		"romanz", // behind all at a fork
		"romann", // between two at a fork
		"romanesque",
		"rubers",
		"a", // ahead of all
		"s", // behind all
		"z",
		strings.Repeat("r", 20),
	} {
		wantPut(t, names, name)
	}
	for _, name := range names {
		wantPut(t, names, name)
		wantCut(t, names, name)
	}
	for _, name := range []string{"r", "ro", "roman", "romanes", "s", "a"} {
		wantCut(t, names, name)
	}
	if x, ok := impl.CutName(oracleRadix(names), "ruber"); !ok || len(x.Edges) != 5 || x.Edges[1] != edge("rom", true, 0) {
		t.Errorf("CutName is %v %v", x, ok)
	}
}

func TestPromise13PutAndCutNearNames(t *testing.T) {
	for _, names := range someSets() {
		near := nearTexts(names)
		for k, s := range near {
			if len(near) < 150 || k%7 == 0 {
				wantPut(t, names, s)
				wantCut(t, names, s)
			}
		}
		for _, name := range names {
			wantPut(t, names, name)
			wantCut(t, names, name)
			wantPut(t, withoutText(names, name), name)
		}
	}
}

func TestPromise13PutAndCutWhatIsNoName(t *testing.T) {
	for _, names := range someSets() {
		for _, s := range []string{"", " ", "A", "a b", "a\x00", "é", "\xff", "`", "{", strings.Repeat("b", 21), strings.Repeat("b", 1000000)} {
			wantPut(t, names, s)
			wantCut(t, names, s)
		}
		wantPut(t, names, strings.Repeat("b", 20))
		wantCut(t, names, strings.Repeat("b", 20))
	}
}

func TestPromise13PutAtMaxNames(t *testing.T) {
	for _, names := range [][]string{codedNames("", 41), codedNames("q", 41), slices.Concat(chainNames("a", 20), chainNames("b", 20), []string{"c"})} {
		for many := 38; many <= 40; many++ {
			for _, name := range []string{names[40], names[0], "x", "aaaaaaaaaaaaaaaaaaaz", "qaaaab"} {
				wantPut(t, names[:many], name)
			}
		}
		for _, name := range names {
			wantCut(t, names[:40], name)
		}
		// Where one is cut another one fits again.
		r, _ := impl.CutName(oracleRadix(names[:40]), names[7])
		got, ok := impl.PutName(r, names[40])
		wantRadix(t, "cut and put another one", got, ok, withText(withoutText(names[:40], names[7]), names[40]))
	}
}

func TestPromise13TheLastOneIsCut(t *testing.T) {
	for _, name := range []string{"a", "rom", strings.Repeat("z", 20)} {
		r, _ := impl.RadixOf([]string{name})
		got, ok := impl.CutName(r, name)
		wantRadix(t, "CutName of the last one", got, ok, nil)
		again, ok := impl.CutName(got, name)
		wantZeroRadix(t, "CutName once more", again, ok)
		back, ok := impl.PutName(got, name)
		wantRadix(t, "PutName of the first one", back, ok, []string{name})
	}
}

func TestPromise13PutAndCutAgainIsAsItWas(t *testing.T) {
	d := &dice{state: 136}
	for _, names := range someSets() {
		before := oracleRadix(names)
		for range 20 {
			name := d.textOf("abmroqz", 1+d.below(8))
			put, ok := impl.PutName(before, name)
			if ok == (slices.Contains(names, name) || len(names) == 40) {
				t.Errorf("PutName(%q) to %q is %v", name, names, ok)
			}
			if !ok {
				continue
			}
			back, ok := impl.CutName(put, name)
			wantRadix(t, "put and cut "+name, back, ok, names)
		}
		for _, name := range names {
			cut, _ := impl.CutName(before, name)
			back, ok := impl.PutName(cut, name)
			wantRadix(t, "cut and put "+name, back, ok, names)
		}
	}
}

// All names are put one by one in some order, and cut one by one in another.
func TestPromise13ManyChanges(t *testing.T) {
	d := &dice{state: 137}
	for _, all := range append(someSets(), d.names(40), d.names(40), d.names(40)) {
		r, ok := impl.RadixOf(nil)
		wantRadix(t, "RadixOf", r, ok, nil)
		order := mixed(d, all)
		for k, name := range order {
			r, ok = impl.PutName(r, name)
			wantRadix(t, "PutName "+name, r, ok, order[:k+1])
		}
		left := all
		for _, name := range mixed(d, all) {
			left = withoutText(left, name)
			r, ok = impl.CutName(r, name)
			wantRadix(t, "CutName "+name, r, ok, left)
		}
	}
}
