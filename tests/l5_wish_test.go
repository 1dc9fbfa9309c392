package tests

import (
	"slices"
	"strings"
	"testing"

	"loop.example/g00274/impl"
)

// wish is a term with its kids as a tree, told another way than the program's, so that both can be held against each other.
type wish struct {
	kind  int
	path  string
	value tree
	kids  []wish
}

func treeIn(s string) tree {
	x, ok := oracleRead(s)
	if !ok {
		panic("no value: " + s)
	}
	return x
}

func ask(kind int, path string, value string) wish {
	return wish{kind: kind, path: path, value: treeIn(value)}
}

func eq(path string, value string) wish {
	return ask(impl.TermEq, path, value)
}

func lt(path string, value string) wish {
	return ask(impl.TermLt, path, value)
}

func gt(path string, value string) wish {
	return ask(impl.TermGt, path, value)
}

func in(path string, value string) wish {
	return ask(impl.TermIn, path, value)
}

func has(path string) wish {
	return wish{kind: impl.TermHas, path: path}
}

func and(kids ...wish) wish {
	return wish{kind: impl.TermAnd, kids: kids}
}

func or(kids ...wish) wish {
	return wish{kind: impl.TermOr, kids: kids}
}

func not(kid wish) wish {
	return wish{kind: impl.TermNot, kids: []wish{kid}}
}

func notTimes(many int, w wish) wish {
	for range many {
		w = not(w)
	}
	return w
}

func (w wish) size() int {
	n := 1
	for _, kid := range w.kids {
		n += kid.size()
	}
	return n
}

func (w wish) text() string {
	s := "(" + []string{"?", "eq", "lt", "gt", "has", "in", "and", "or", "not"}[w.kind]
	if w.kind <= impl.TermIn {
		s += " " + quote(w.path)
	}
	if w.value.kind != 0 {
		s += " " + w.value.tidy()
	}
	for _, kid := range w.kids {
		s += " " + kid.text()
	}
	return s + ")"
}

// matches says what the chapter says of one document.
func (w wish) matches(x tree) bool {
	switch w.kind {
	case impl.TermAnd:
		return !slices.ContainsFunc(w.kids, func(kid wish) bool { return !kid.matches(x) })
	case impl.TermOr:
		return slices.ContainsFunc(w.kids, func(kid wish) bool { return kid.matches(x) })
	case impl.TermNot:
		return !w.kids[0].matches(x)
	}
	names, _ := oraclePath(w.path)
	at, found := x.at(names)
	if !found {
		return false
	}
	alike := at.kind == w.value.kind
	switch w.kind {
	case impl.TermEq:
		return at.tidy() == w.value.tidy()
	case impl.TermLt:
		return alike && order(at, w.value) < 0
	case impl.TermGt:
		return alike && order(at, w.value) > 0
	case impl.TermIn:
		return slices.ContainsFunc(w.value.kids, func(part tree) bool { return part.tidy() == at.tidy() })
	}
	return true
}

// plain carries the turning down with it, until it meets what stands alone.
func (w wish) plain(turned bool) wish {
	if w.kind == impl.TermNot {
		return w.kids[0].plain(!turned)
	}
	if w.kind < impl.TermAnd {
		if turned {
			return not(w)
		}
		return w
	}
	made := wish{kind: w.kind}
	if turned {
		made.kind = impl.TermAnd + impl.TermOr - w.kind
	}
	for _, kid := range w.kids {
		made.kids = append(made.kids, kid.plain(turned))
	}
	return made
}

// filter tells the terms kids first, each with all its own ahead of the next one.
func (w wish) filter() impl.Filter {
	return impl.Filter{Terms: w.appendTo(nil)}
}

func (w wish) appendTo(terms []impl.Term) []impl.Term {
	term := impl.Term{Kind: w.kind, Path: w.path}
	for _, kid := range w.kids {
		terms = kid.appendTo(terms)
		term.Kids = append(term.Kids, len(terms)-1)
	}
	if w.value.kind != 0 {
		term.Value = w.value.value()
	}
	return append(terms, term)
}

// wishOf takes a good filter's terms as a tree, in whatever order they stand.
func wishOf(f impl.Filter) wish {
	return wishAt(f.Terms, len(f.Terms)-1)
}

func wishAt(terms []impl.Term, k int) wish {
	w := wish{kind: terms[k].Kind, path: terms[k].Path}
	if len(terms[k].Value.Nodes) > 0 {
		w.value = treeOf(terms[k].Value.Nodes, 0)
	}
	for _, kid := range terms[k].Kids {
		w.kids = append(w.kids, wishAt(terms, kid))
	}
	return w
}

func sameTerm(a impl.Term, b impl.Term) bool {
	return a.Kind == b.Kind && a.Path == b.Path && sameValue(a.Value, b.Value) && slices.Equal(a.Kids, b.Kids)
}

func sameFilter(a impl.Filter, b impl.Filter) bool {
	return slices.EqualFunc(a.Terms, b.Terms, sameTerm)
}

// oracleGoodFilter counts for each term how often it is a kid, and where, by looking at all others.
func oracleGoodFilter(f impl.Filter) bool {
	if len(f.Terms) < 1 || len(f.Terms) > 20 {
		return false
	}
	for k, term := range f.Terms {
		if !oracleGoodTerm(term) || !slices.IsSorted(term.Kids) {
			return false
		}
		ahead, kids := 0, 0
		for other, above := range f.Terms {
			for _, kid := range above.Kids {
				if kid < 0 || kid >= len(f.Terms) {
					return false
				}
				if kid == k {
					kids++
				}
				if kid == k && k < other {
					ahead++
				}
			}
		}
		if last := k == len(f.Terms)-1; ahead != kids || kids > 1 || last != (kids == 0) {
			return false
		}
	}
	return true
}

func oracleGoodTerm(term impl.Term) bool {
	if term.Kind < 1 || term.Kind > 8 {
		return false
	}
	if term.Kind >= impl.TermAnd {
		few := term.Kind != impl.TermNot || len(term.Kids) == 1
		return term.Path == "" && len(term.Value.Nodes) == 0 && few
	}
	if _, ok := oraclePath(term.Path); !ok || len(term.Kids) > 0 {
		return false
	}
	if term.Kind == impl.TermHas {
		return len(term.Value.Nodes) == 0
	}
	return oracleGood(term.Value) && (term.Kind != impl.TermIn || term.Value.Nodes[0].Kind == impl.KindList)
}

// small tells few values, so that many are alike.
func (d *dice) small(deep int) tree {
	kinds := 12
	if deep == 0 {
		kinds = 9
	}
	switch k := d.below(kinds); k {
	case 0, 1, 2:
		return tree{kind: k + 1}
	case 3, 4, 5, 6:
		return numberTree(d.below(3) - 1)
	case 7, 8:
		return textTree([]string{"", "x", "xy"}[d.below(3)])
	case 9:
		return mapOf(d.pick("ab"), d.small(deep-1))
	}
	x := listOf()
	for range d.below(4) {
		x.kids = append(x.kids, d.small(deep-1))
	}
	return x
}

// doc tells documents that paths of dice.term often lead into.
func (d *dice) doc() tree {
	all := map[string]tree{}
	for range d.below(4) {
		all[d.pick("abc")] = d.small(2)
	}
	if d.below(8) == 0 {
		return d.small(2)
	}
	return mapOfAll(all)
}

func (d *dice) term() impl.Term {
	paths := []string{"", "/a", "/a", "/b", "/b", "/c", "/a/0", "/a/1", "/b/a", "/b/0/a", "/d"}
	term := impl.Term{Kind: 1 + d.below(5), Path: paths[d.below(len(paths))]}
	switch term.Kind {
	case impl.TermEq, impl.TermLt, impl.TermGt:
		term.Value = d.small(1).value()
	case impl.TermIn:
		x := listOf()
		for range d.below(6) {
			x.kids = append(x.kids, d.small(1))
		}
		term.Value = x.value()
	}
	return term
}

// filter tells good filters of so many terms, which stand in any order that goes on from kids to what is above them.
func (d *dice) filter(size int) impl.Filter {
	var terms []impl.Term
	var free []int
	for k := range size {
		last := k == size-1
		term := d.term()
		if last && k > 0 || d.below(2) == 0 {
			term = impl.Term{Kind: impl.TermAnd + d.below(3)}
		}
		most := min(len(free), d.below(4))
		if last {
			most = len(free)
		}
		if term.Kind == impl.TermNot && (len(free) == 0 || last && most != 1) {
			term.Kind = impl.TermAnd + d.below(2)
		}
		if term.Kind == impl.TermNot {
			most = 1
		}
		if term.Kind >= impl.TermAnd {
			term.Kids, free = d.take(free, most)
		}
		free = append(free, k)
		terms = append(terms, term)
	}
	return impl.Filter{Terms: terms}
}

// take parts a rising list: so many of it, and the others.
func (d *dice) take(l []int, many int) ([]int, []int) {
	taken, left := []int{}, slices.Clone(l)
	for range many {
		k := d.below(len(left))
		taken = append(taken, left[k])
		left = slices.Delete(left, k, k+1)
	}
	slices.Sort(taken)
	return taken, left
}

func wantMatch(t *testing.T, w wish, text string, want bool) {
	t.Helper()
	v := mustRead(t, text)
	if got, ok := impl.MatchFilter(w.filter(), v); !ok || got != want {
		t.Errorf("MatchFilter(%s, %s) is %v %v", w.text(), text, got, ok)
	}
	if got := w.matches(treeIn(text)); got != want {
		t.Errorf("the test's own %s of %s is %v", w.text(), text, got)
	}
}

func wantFilter(t *testing.T, what string, got impl.Filter, ok bool, want impl.Filter) {
	t.Helper()
	if !ok || !sameFilter(got, want) {
		t.Errorf("%s is %v %v, not %v", what, got, ok, want)
	}
	if !impl.GoodFilter(got) {
		t.Errorf("%s is not good: %v", what, got)
	}
}

func wantZeroFilter(t *testing.T, what string, got impl.Filter, ok bool) {
	t.Helper()
	if ok || len(got.Terms) != 0 {
		t.Errorf("%s is %v %v", what, got, ok)
	}
}

// numbered are so many wishes that have one path each.
func numbered(many int) []wish {
	var l []wish
	for k := range many {
		l = append(l, has("/"+strings.Repeat("a", k+1)))
	}
	return l
}

func TestWishesComeBackFromFilters(t *testing.T) {
	w := not(and(eq("/a", "[1,{}]"), or(), not(has("")), or(in("/b", "[]"), and())))
	f := w.filter()
	if back := wishOf(f); back.text() != w.text() || w.size() != len(f.Terms) || !oracleGoodFilter(f) {
		t.Errorf("%s comes back as %s", w.text(), back.text())
	}
}
