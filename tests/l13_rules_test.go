package tests

import (
	"slices"
	"strings"
	"testing"

	"loop.example/g00274/impl"
)

// wantNoRadix asks each function of the chapter that takes a radix for its answer where that is not good.
func wantNoRadix(t *testing.T, what string, bad impl.Radix) {
	t.Helper()
	if impl.GoodRadix(bad) {
		t.Errorf("%s: GoodRadix of %v", what, bad)
	}
	if names, ok := impl.NamesIn(bad); ok || len(names) != 0 {
		t.Errorf("%s: NamesIn is %q %v", what, names, ok)
	}
	for _, s := range []string{"", "a", "rom", "romanus", "new", "A", strings.Repeat("a", 20), strings.Repeat("a", 61)} {
		if has, looks, ok := impl.HasName(bad, s); has || looks != 0 || ok {
			t.Errorf("%s: HasName(%q) is %v %d %v", what, s, has, looks, ok)
		}
		if names, ok := impl.WithPrefix(bad, s); ok || len(names) != 0 {
			t.Errorf("%s: WithPrefix(%q) is %q %v", what, s, names, ok)
		}
		if name, ok := impl.LongestPrefix(bad, s); ok || name != "" {
			t.Errorf("%s: LongestPrefix(%q) is %q %v", what, s, name, ok)
		}
		got, ok := impl.PutName(bad, s)
		wantZeroRadix(t, what+": PutName", got, ok)
		got, ok = impl.CutName(bad, s)
		wantZeroRadix(t, what+": CutName", got, ok)
	}
}

// wantAsRadixRulesSay holds GoodRadix against the rules told one by one.
func wantAsRadixRulesSay(t *testing.T, what string, r impl.Radix) bool {
	t.Helper()
	want := oracleGoodRadix(r)
	if got := impl.GoodRadix(r); got != want {
		t.Errorf("%s: GoodRadix(%v) is %v", what, r, got)
	}
	if !want {
		wantNoRadix(t, what, r)
	}
	return want
}

func edge(text string, name bool, up int) impl.Edge {
	return impl.Edge{Text: text, Name: name, Up: up}
}

// fourNames has the edges 1 r, 2 om, 3 an, 4 e, 5 us and 6 uber.
func fourNames() []impl.Edge {
	return oracleRadix([]string{"romane", "romanus", "rom", "ruber"}).Edges
}

func edgesWith(k int, e impl.Edge) []impl.Edge {
	edges := fourNames()
	edges[k] = e
	return edges
}

// brokenEdges break one rule each.
func brokenEdges() map[string][]impl.Edge {
	root := edge("", false, -1)
	long := strings.Repeat("a", 20)
	return map[string][]impl.Edge{
		"no edges":                         nil,
		"no edges, with room":              make([]impl.Edge, 0, 5),
		"nothing but zeros":                {{}},
		"a root with a Text":               edgesWith(0, edge("x", false, -1)),
		"a root with a Text alone":         {edge("x", false, -1)},
		"a root that is a Name":            edgesWith(0, edge("", true, -1)),
		"a root that is a Name alone":      {edge("", true, -1)},
		"a root with a Text and a Name":    {edge("x", true, -1)},
		"a root with the Up 0":             edgesWith(0, edge("", false, 0)),
		"a root with the Up -2":            edgesWith(0, edge("", false, -2)),
		"a root with the Up 1":             edgesWith(0, edge("", false, 1)),
		"a root with the least Up":         {edge("", false, least)},
		"two roots":                        {root, root},
		"two roots, the second a name":     {root, edge("a", true, -1)},
		"no root":                          fourNames()[1:],
		"a Text with a great letter":       edgesWith(6, edge("Uber", true, 1)),
		"a Text with a blank":              edgesWith(6, edge("ub r", true, 1)),
		"a Text with the byte below a":     edgesWith(6, edge("u`", true, 1)),
		"a Text with the byte above z":     edgesWith(6, edge("u{", true, 1)),
		"a Text with a byte 0":             edgesWith(6, edge("u\x00", true, 1)),
		"a Text with a byte 255":           edgesWith(6, edge("u\xff", true, 1)),
		"a fork with another byte":         edgesWith(3, edge("aN", false, 2)),
		"an empty Text of a name":          edgesWith(6, edge("", true, 1)),
		"an empty Text of a fork":          edgesWith(3, edge("", false, 2)),
		"an empty Text alone":              {root, edge("", true, 0)},
		"an empty Text above another one":  {root, edge("", false, 0), edge("a", true, 1), edge("b", true, 1)},
		"a name that is none, at the end":  edgesWith(6, edge("uber", false, 1)),
		"a name that is none, alone":       {root, edge("a", false, 0)},
		"a fork without any below":         {root, edge("a", true, 0), edge("b", false, 0)},
		"one below what is no name":        {root, edge("a", false, 0), edge("b", true, 1)},
		"one below what is none any more":  edgesWith(2, edge("om", false, 1)),
		"an Up of its own":                 edgesWith(6, edge("uber", true, 6)),
		"an Up behind it":                  edgesWith(4, edge("e", true, 5)),
		"an Up beyond the last":            edgesWith(6, edge("uber", true, 7)),
		"an Up of -1":                      edgesWith(6, edge("uber", true, -1)),
		"an Up of -2":                      edgesWith(4, edge("e", true, -2)),
		"the least Up":                     edgesWith(4, edge("e", true, least)),
		"the greatest Up":                  edgesWith(4, edge("e", true, greatest)),
		"an Up and two to the 32":          edgesWith(4, edge("e", true, 3+1<<32)),
		"an Up that leaves a fork alone":   edgesWith(5, edge("us", true, 2)),
		"an Up that turns back below":      edgesWith(6, edge("uber", true, 2)),
		"a stretch that is left and met":   {root, edge("a", true, 0), edge("b", true, 0), edge("c", true, 1)},
		"all below behind the next":        {root, edge("a", true, 0), edge("c", true, 0), edge("b", true, 1)},
		"first bytes that fall":            {root, edge("b", true, 0), edge("a", true, 0)},
		"first bytes that fall, below":     {root, edge("x", true, 0), edge("b", true, 1), edge("a", true, 1)},
		"first bytes alike":                {root, edge("ab", true, 0), edge("ac", true, 0)},
		"first bytes alike, the one begun": {root, edge("a", true, 0), edge("ab", true, 0)},
		"first bytes alike, turned":        {root, edge("ab", true, 0), edge("a", true, 0)},
		"first bytes alike, not beside":    {root, edge("a", true, 0), edge("b", true, 0), edge("ac", true, 0)},
		"an edge twice":                    {root, edge("a", true, 0), edge("a", true, 0)},
		"a name of 21 bytes":               {root, edge(long+"a", true, 0)},
		"a name of 21 bytes, in two":       {root, edge(long, true, 0), edge("b", true, 1)},
		"a name of 21 bytes, forked":       {root, edge(long, false, 0), edge("b", true, 1), edge("c", true, 1)},
		"a name of 21 bytes, of one each":  chainEdges(21),
		"a name of a million bytes":        {root, edge(strings.Repeat("a", 1000000), true, 0)},
		"one name too many":                oracleRadix(codedNames("", 41)).Edges,
		"one name too many, at the end":    append(oracleRadix(codedNames("", 40)).Edges, edge("z", true, 0)),
		"many names too many":              oracleRadix(eachText("abc", 4)[1:]).Edges,
	}
}

// chainEdges has so many names, each with one byte more than the one ahead.
func chainEdges(many int) []impl.Edge {
	edges := []impl.Edge{edge("", false, -1)}
	for k := range many {
		edges = append(edges, edge("a", true, k))
	}
	return edges
}

func TestPromise13RadixesThatBreakARule(t *testing.T) {
	for rule, edges := range brokenEdges() {
		if oracleGoodRadix(impl.Radix{Edges: edges}) {
			t.Errorf("%s: it is good", rule)
		}
		wantNoRadix(t, rule, impl.Radix{Edges: edges})
	}
}

func TestPromise13RadixesThatAreGood(t *testing.T) {
	root := edge("", false, -1)
	for what, edges := range map[string][]impl.Edge{
		"the root alone":                   {root},
		"one name":                         {root, edge("a", true, 0)},
		"one name of 20 bytes":             {root, edge(strings.Repeat("a", 20), true, 0)},
		"names of 20 bytes, forked":        {root, edge(strings.Repeat("a", 19), false, 0), edge("b", true, 1), edge("c", true, 1)},
		"one below the root that is none":  {root, edge("a", false, 0), edge("b", true, 1), edge("c", true, 1)},
		"one below a name":                 {root, edge("a", true, 0), edge("b", true, 1)},
		"three below what is no name":      {root, edge("a", false, 0), edge("b", true, 1), edge("c", true, 1), edge("z", true, 1)},
		"the same Texts at unlike edges":   {root, edge("a", true, 0), edge("a", true, 1), edge("b", true, 0), edge("a", true, 3)},
		"a fork right below a fork":        {root, edge("a", false, 0), edge("a", false, 1), edge("a", true, 2), edge("b", true, 2), edge("b", true, 1)},
		"twenty that begin each the next":  chainEdges(20),
		"four names":                       fourNames(),
		"forty names":                      oracleRadix(codedNames("", 40)).Edges,
		"forty names and the most edges":   oracleRadix(codedNames("q", 40)).Edges,
		"thirty nine and one at the end":   append(oracleRadix(codedNames("", 39)).Edges, edge("z", true, 0)),
		"thirty nine of the longest names": oracleRadix(codedNames("abcdefghijklmn", 39)).Edges,
	} {
		if r := (impl.Radix{Edges: edges}); !impl.GoodRadix(r) || !oracleGoodRadix(r) {
			t.Errorf("%s: not good: %v", what, edges)
		}
	}
}

// changedEdges change one edge of a radix, leave it out or put it elsewhere.
func changedEdges(edges []impl.Edge, k int) map[string][]impl.Edge {
	with := func(e impl.Edge) []impl.Edge {
		made := slices.Clone(edges)
		made[k] = e
		return made
	}
	own := edges[k]
	all := map[string][]impl.Edge{
		"longer in front":  with(edge("a"+own.Text, own.Name, own.Up)),
		"longer behind":    with(edge(own.Text+"a", own.Name, own.Up)),
		"longer by 20":     with(edge(own.Text+strings.Repeat("a", 20), own.Name, own.Up)),
		"empty":            with(edge("", own.Name, own.Up)),
		"another byte":     with(edge(own.Text+"A", own.Name, own.Up)),
		"a byte in front":  with(edge("{"+own.Text, own.Name, own.Up)),
		"the name turned":  with(edge(own.Text, !own.Name, own.Up)),
		"left out":         slices.Delete(slices.Clone(edges), k, k+1),
		"put twice":        slices.Insert(slices.Clone(edges), k, own),
		"put at the end":   append(slices.Clone(edges), own),
		"up by one":        with(edge(own.Text, own.Name, own.Up+1)),
		"up by one less":   with(edge(own.Text, own.Name, own.Up-1)),
		"up at itself":     with(edge(own.Text, own.Name, k)),
		"up at the one":    with(edge(own.Text, own.Name, k-1)),
		"up at the root":   with(edge(own.Text, own.Name, 0)),
		"up below -1":      with(edge(own.Text, own.Name, -2)),
		"up at -1":         with(edge(own.Text, own.Name, -1)),
		"up far beyond":    with(edge(own.Text, own.Name, greatest)),
		"up far below":     with(edge(own.Text, own.Name, least)),
		"up at the length": with(edge(own.Text, own.Name, len(edges))),
	}
	if own.Text != "" {
		all["another last byte"] = with(edge(own.Text[:len(own.Text)-1]+"q", own.Name, own.Up))
		all["a great letter"] = with(edge(strings.ToUpper(own.Text), own.Name, own.Up))
		all["shorter"] = with(edge(own.Text[1:], own.Name, own.Up))
	}
	for other := range k {
		made := slices.Clone(edges)
		made[k], made[other] = made[other], made[k]
		all["turned about with "+edges[other].Text] = made
	}
	return all
}

// Some changes leave a good radix, of other names: the rules tell which.
func TestPromise13OneThingChanged(t *testing.T) {
	good, bad := 0, 0
	for _, names := range someSets() {
		edges := oracleRadix(names).Edges
		for k := range edges {
			if len(edges) > 30 && k%13 != 0 {
				continue
			}
			for what, changed := range changedEdges(edges, k) {
				if slices.Equal(changed, edges) {
					continue
				}
				if wantAsRadixRulesSay(t, what, impl.Radix{Edges: changed}) {
					good++
				} else {
					bad++
				}
			}
		}
	}
	if good < 100 || bad < 1000 {
		t.Errorf("%d good and %d bad: that tells little", good, bad)
	}
}

// Of two radixes that are good no two have the same names: so a good one is what RadixOf makes of its names.
func TestPromise13EveryRadixOfFewEdges(t *testing.T) {
	var all []impl.Edge
	for _, text := range []string{"", "a", "b", "ab"} {
		for up := -1; up <= 3; up++ {
			all = append(all, edge(text, false, up), edge(text, true, up))
		}
	}
	good := 0
	for _, first := range all {
		for _, second := range all {
			for _, third := range all {
				r := impl.Radix{Edges: []impl.Edge{edge("", false, -1), first, second, third}}
				if impl.GoodRadix(r) != oracleGoodRadix(r) {
					t.Errorf("GoodRadix(%v) is not %v", r, oracleGoodRadix(r))
				}
				if !oracleGoodRadix(r) {
					continue
				}
				good++
				names, ok := impl.NamesIn(r)
				if made, again := impl.RadixOf(names); !ok || !again || !sameRadix(made, r) {
					t.Errorf("RadixOf(%q) is %v, not %v", names, made, r)
				}
			}
		}
	}
	if good < 20 {
		t.Errorf("only %d are good", good)
	}
}

func (d *dice) disturbRadix(r *impl.Radix) {
	k, other := d.below(len(r.Edges)), d.below(len(r.Edges))
	e := &r.Edges[k]
	switch d.below(9) {
	case 0:
		e.Up = d.below(len(r.Edges)+2) - 1
	case 1:
		e.Name = !e.Name
	case 2:
		e.Text = d.textOf("abz", d.below(4))
	case 3:
		e.Text += d.pick("abcdefghijklmnopqrstuvwxyz")
	case 4:
		e.Text = e.Text[:d.below(len(e.Text)+1)]
	case 5:
		r.Edges[k], r.Edges[other] = r.Edges[other], r.Edges[k]
	case 6:
		e.Text, r.Edges[other].Text = r.Edges[other].Text, e.Text
	case 7:
		r.Edges = append(r.Edges, edge(d.textOf("az", 1+d.below(2)), true, d.below(len(r.Edges))))
	case 8:
		r.Edges = r.Edges[:len(r.Edges)-d.below(2)]
	}
}

func TestPromise13GoodRadixAgainstTheRules(t *testing.T) {
	d := &dice{state: 134}
	good, bad := 0, 0
	for range 3000 {
		r := oracleRadix(d.names(8))
		for range 1 + d.below(2) {
			if len(r.Edges) > 0 {
				d.disturbRadix(&r)
			}
		}
		if wantAsRadixRulesSay(t, "disturbed", r) {
			good++
		} else {
			bad++
		}
	}
	if good < 400 || bad < 1000 {
		t.Errorf("%d good and %d bad: that tells little", good, bad)
	}
}
