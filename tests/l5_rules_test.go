package tests

import (
	"maps"
	"slices"
	"strconv"
	"strings"
	"testing"

	"loop.example/g00274/impl"
)

func filterOf(terms ...impl.Term) impl.Filter {
	return impl.Filter{Terms: terms}
}

func hasTerm() impl.Term {
	return impl.Term{Kind: impl.TermHas, Path: "/a"}
}

func aboveTerm(kind int, kids ...int) impl.Term {
	return impl.Term{Kind: kind, Kids: kids}
}

// brokenFilters are filters that each break one rule of the chapter.
func brokenFilters() map[string]impl.Filter {
	one, a := impl.NumberOf(1), hasTerm()
	text, _ := impl.TextOf("a")
	all := map[string]impl.Filter{
		"no terms":                       {},
		"no terms in a list":             {Terms: []impl.Term{}},
		"kind 0":                         filterOf(impl.Term{}),
		"kind 0 with a path":             filterOf(impl.Term{Path: "/a"}),
		"kind -1":                        filterOf(impl.Term{Kind: -1, Path: "/a"}),
		"kind 9":                         filterOf(impl.Term{Kind: 9}),
		"kind 9 with one kid":            filterOf(a, aboveTerm(9, 0)),
		"kind 0 ahead":                   filterOf(impl.Term{}, aboveTerm(impl.TermAnd, 0)),
		"TermIn of no list: a number":    filterOf(impl.Term{Kind: impl.TermIn, Path: "/a", Value: one}),
		"TermIn of no list: a text":      filterOf(impl.Term{Kind: impl.TermIn, Path: "/a", Value: text}),
		"TermIn of no list: null":        filterOf(impl.Term{Kind: impl.TermIn, Path: "/a", Value: tree{kind: impl.KindNull}.value()}),
		"TermIn of no list: a map":       filterOf(impl.Term{Kind: impl.TermIn, Path: "/a", Value: mapOf("a", numberTree(1)).value()}),
		"TermIn of no list: none":        filterOf(impl.Term{Kind: impl.TermIn, Path: "/a"}),
		"TermHas with a value":           filterOf(impl.Term{Kind: impl.TermHas, Path: "/a", Value: one}),
		"TermHas with a bad value":       filterOf(impl.Term{Kind: impl.TermHas, Path: "/a", Value: impl.Value{Nodes: make([]impl.Node, 1)}}),
		"TermNot of none":                filterOf(aboveTerm(impl.TermNot)),
		"TermNot of none above one":      filterOf(a, aboveTerm(impl.TermNot)),
		"TermNot of none below":          filterOf(aboveTerm(impl.TermNot), aboveTerm(impl.TermAnd, 0)),
		"TermNot of two":                 filterOf(a, a, aboveTerm(impl.TermNot, 0, 1)),
		"TermNot of one twice":           filterOf(a, aboveTerm(impl.TermNot, 0, 0)),
		"kids that fall":                 filterOf(a, a, aboveTerm(impl.TermAnd, 1, 0)),
		"kids of TermOr that fall":       filterOf(a, a, a, aboveTerm(impl.TermOr, 0, 2, 1)),
		"a kid twice in one term":        filterOf(a, aboveTerm(impl.TermAnd, 0, 0)),
		"a kid twice, others missing":    filterOf(a, a, aboveTerm(impl.TermOr, 1, 1)),
		"a kid twice in two terms":       filterOf(a, aboveTerm(impl.TermNot, 0), aboveTerm(impl.TermAnd, 0, 1)),
		"a kid twice in terms beside":    filterOf(a, aboveTerm(impl.TermNot, 0), aboveTerm(impl.TermNot, 0), aboveTerm(impl.TermAnd, 1, 2)),
		"a kid never":                    filterOf(a, a),
		"a kid never, above one":         filterOf(a, a, aboveTerm(impl.TermNot, 0)),
		"a kid never, first":             filterOf(a, a, aboveTerm(impl.TermNot, 1)),
		"a kid never below no kids":      filterOf(a, aboveTerm(impl.TermAnd)),
		"a kid never that has kids":      filterOf(a, aboveTerm(impl.TermNot, 0), a, aboveTerm(impl.TermOr, 2)),
		"itself as a kid":                filterOf(aboveTerm(impl.TermNot, 0)),
		"itself as a kid beside another": filterOf(a, aboveTerm(impl.TermAnd, 0, 1)),
		"a kid that is behind":           filterOf(aboveTerm(impl.TermNot, 1), a),
		"kids of one another":            filterOf(aboveTerm(impl.TermNot, 1), aboveTerm(impl.TermNot, 0)),
		"the last one as a kid":          filterOf(a, aboveTerm(impl.TermAnd, 0, 2), aboveTerm(impl.TermNot, 1)),
		"kid -1":                         filterOf(a, aboveTerm(impl.TermAnd, -1, 0)),
		"kid -1 alone":                   filterOf(aboveTerm(impl.TermNot, -1)),
		"a kid beyond all":               filterOf(a, aboveTerm(impl.TermAnd, 0, 2)),
		"a kid far beyond":               filterOf(a, aboveTerm(impl.TermOr, 0, greatest)),
		"a kid far below":                filterOf(a, aboveTerm(impl.TermOr, least, 0)),
		"21 terms":                       and(numbered(20)...).filter(),
		"21 terms, one above the other":  notTimes(20, or()).filter(),
	}
	maps.Copy(all, brokenFields())
	return all
}

// brokenFields are filters in each of which one field is not as its kind asks.
func brokenFields() map[string]impl.Filter {
	a, list := hasTerm(), listOf(numberTree(1)).value()
	all := map[string]impl.Filter{}
	for _, kind := range []int{impl.TermEq, impl.TermLt, impl.TermGt} {
		k := "kind " + strconv.Itoa(kind)
		all[k+" without a value"] = filterOf(impl.Term{Kind: kind, Path: "/a"})
		all[k+" with a part as its value"] = filterOf(impl.Term{Kind: kind, Path: "/a", Value: impl.Value{Nodes: []impl.Node{{Kind: impl.KindNumber}}}})
	}
	for _, kind := range []int{impl.TermEq, impl.TermLt, impl.TermGt, impl.TermHas, impl.TermIn} {
		good := impl.Term{Kind: kind, Path: "/a", Value: list}
		if kind == impl.TermHas {
			good.Value = impl.Value{}
		}
		for _, path := range []string{"a", "/~", "/~2", "a/b", " ", "/a\n", "/\x7f", "/é", strings.Repeat("/", 61), "/" + strings.Repeat("a", 25)} {
			bad := good
			bad.Path = path
			all["kind "+strconv.Itoa(kind)+" at "+strconv.Quote(path)] = filterOf(bad)
		}
		bad := good
		bad.Kids = []int{0}
		all["kind "+strconv.Itoa(kind)+" with a kid"] = filterOf(a, bad)
	}
	for _, kind := range []int{impl.TermAnd, impl.TermOr, impl.TermNot} {
		all["kind "+strconv.Itoa(kind)+" with a path"] = filterOf(a, impl.Term{Kind: kind, Path: "/a", Kids: []int{0}})
		all["kind "+strconv.Itoa(kind)+" with a value"] = filterOf(a, impl.Term{Kind: kind, Value: list, Kids: []int{0}})
	}
	return all
}

func TestPromise5FiltersThatAreNotGood(t *testing.T) {
	for rule, f := range brokenFilters() {
		if impl.GoodFilter(f) || oracleGoodFilter(f) {
			t.Errorf("good: %s", rule)
		}
	}
}

func TestPromise5FiltersThatAreGood(t *testing.T) {
	a := hasTerm()
	empty := impl.Value{Nodes: []impl.Node{}}
	for _, f := range []impl.Filter{
		filterOf(a),
		filterOf(impl.Term{Kind: impl.TermHas}),
		filterOf(impl.Term{Kind: impl.TermHas, Path: "/" + strings.Repeat("a", 24)}),
		filterOf(impl.Term{Kind: impl.TermHas, Path: strings.Repeat("/", 60)}),
		filterOf(impl.Term{Kind: impl.TermHas, Path: "/~0/~1/ "}),
		filterOf(impl.Term{Kind: impl.TermHas, Path: "/a", Value: empty, Kids: []int{}}),
		filterOf(impl.Term{Kind: impl.TermAnd, Value: empty, Kids: []int{}}),
		filterOf(impl.Term{Kind: impl.TermIn, Value: listOf().value(), Kids: []int{}}),
		filterOf(aboveTerm(impl.TermAnd)),
		filterOf(aboveTerm(impl.TermOr)),
		filterOf(aboveTerm(impl.TermOr), aboveTerm(impl.TermNot, 0)),
		filterOf(a, a, aboveTerm(impl.TermOr, 0, 1)),
		filterOf(a, a, a, aboveTerm(impl.TermNot, 1), aboveTerm(impl.TermAnd, 0, 3), aboveTerm(impl.TermOr, 2, 4)),
		and(numbered(18)...).filter(),
		or(numbered(19)...).filter(),
	} {
		if !impl.GoodFilter(f) || !oracleGoodFilter(f) {
			t.Errorf("not good: %v", f)
		}
	}
	for _, text := range append(rising(), "[]", "{}", "null") {
		for _, kind := range []int{impl.TermEq, impl.TermLt, impl.TermGt} {
			if f := ask(kind, "", text).filter(); !impl.GoodFilter(f) {
				t.Errorf("not good: kind %d of %s", kind, text)
			}
		}
		f := in("/a", text).filter()
		if got, want := impl.GoodFilter(f), text[0] == '['; got != want {
			t.Errorf("TermIn of %s: GoodFilter is %v", text, got)
		}
	}
}

func TestPromise5FiltersWithValuesThatAreNotGood(t *testing.T) {
	for what, v := range badValues() {
		for _, kind := range []int{impl.TermEq, impl.TermLt, impl.TermGt, impl.TermIn} {
			bad := impl.Term{Kind: kind, Path: "/a", Value: v}
			if impl.GoodFilter(filterOf(bad)) || impl.GoodFilter(filterOf(hasTerm(), bad, aboveTerm(impl.TermOr, 0, 1))) {
				t.Errorf("good: kind %d of %s", kind, what)
			}
		}
	}
}

// spoilFilter changes one field or two of a good filter.
func (d *dice) spoilFilter(f impl.Filter) impl.Filter {
	terms := moved(f.Terms, 0)
	for range 1 + d.below(2) {
		term := &terms[d.below(len(terms))]
		switch d.below(7) {
		case 0:
			term.Kind = d.below(10)
		case 1:
			term.Path = []string{"", "/a", "a", "/~"}[d.below(4)]
		case 2:
			term.Value = impl.Value{}
		case 3:
			term.Value = d.small(1).value()
		case 4:
			term.Kids = append(term.Kids, d.below(len(terms)+2)-1)
		case 5:
			term.Kids = term.Kids[:len(term.Kids)/2]
		case 6:
			slices.Reverse(term.Kids)
		}
	}
	if d.below(6) == 0 {
		k := d.below(len(terms) + 1)
		terms = slices.Insert(terms, k, d.term())
	}
	return impl.Filter{Terms: terms}
}

func TestPromise5GoodFilterAgainstItsRules(t *testing.T) {
	d := &dice{state: 58}
	good, bad := 0, 0
	for range 30000 {
		f := d.filter(1 + d.below(20))
		if !impl.GoodFilter(f) || !oracleGoodFilter(f) {
			t.Fatalf("not good: %v", f)
		}
		f = d.spoilFilter(f)
		want := oracleGoodFilter(f)
		if got := impl.GoodFilter(f); got != want {
			t.Errorf("GoodFilter is %v: %v", got, f)
		}
		if want {
			good++
		} else {
			bad++
			wantNoFilter(t, "spoilt", f)
		}
	}
	if good < 3000 || bad < 10000 {
		t.Errorf("%d good and %d bad: that tells little", good, bad)
	}
}
