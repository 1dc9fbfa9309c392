package tests

import (
	"slices"
	"strings"
	"testing"

	"loop.example/g00274/impl"
)

// wantNoFilter asks each function of the chapter for its zero answer, with the filter in each place.
func wantNoFilter(t *testing.T, what string, f impl.Filter) {
	t.Helper()
	if impl.GoodFilter(f) {
		t.Errorf("%s: GoodFilter", what)
	}
	v := impl.NumberOf(1)
	if yes, ok := impl.MatchFilter(f, v); ok || yes {
		t.Errorf("%s: MatchFilter is %v %v", what, yes, ok)
	}
	for _, l := range [][]impl.Value{nil, {v}, {v, v}, {{}}, slices.Repeat([]impl.Value{v}, 61)} {
		if got, ok := impl.SelectValues(f, l); ok || len(got) != 0 {
			t.Errorf("%s: SelectValues is %v %v", what, got, ok)
		}
	}
	got, ok := impl.NegateFilter(f)
	wantZeroFilter(t, what+": NegateFilter", got, ok)
	got, ok = impl.PlainFilter(f)
	wantZeroFilter(t, what+": PlainFilter", got, ok)
	good := or(has("/a"), not(eq("", "1"))).filter()
	for _, args := range [][2]impl.Filter{{f, good}, {good, f}, {f, f}} {
		got, ok := impl.AndFilters(args[0], args[1])
		wantZeroFilter(t, what+": AndFilters", got, ok)
	}
	if many, nots, ok := impl.TermsIn(f); ok || many != 0 || nots != 0 {
		t.Errorf("%s: TermsIn is %d %d %v", what, many, nots, ok)
	}
}

func TestPromise19FiltersThatAreNotGood(t *testing.T) {
	for rule, f := range brokenFilters() {
		wantNoFilter(t, rule, f)
	}
	long := strings.Repeat("/a", 500000)
	numbers := make([]int, 1000000)
	for k := range numbers {
		numbers[k] = k
	}
	wantNoFilter(t, "a million terms", impl.Filter{Terms: make([]impl.Term, 1000000)})
	wantNoFilter(t, "a million good terms", impl.Filter{Terms: slices.Repeat([]impl.Term{hasTerm()}, 1000000)})
	wantNoFilter(t, "a million kids", filterOf(hasTerm(), aboveTerm(impl.TermAnd, numbers...)))
	wantNoFilter(t, "a million kids alike", filterOf(hasTerm(), aboveTerm(impl.TermOr, make([]int, 1000000)...)))
	wantNoFilter(t, "a long path", filterOf(impl.Term{Kind: impl.TermHas, Path: long}))
	wantNoFilter(t, "a long path that must be none", filterOf(impl.Term{Kind: impl.TermAnd, Path: long}))
	for what, v := range badValues() {
		for _, kind := range []int{impl.TermEq, impl.TermIn} {
			wantNoFilter(t, what, filterOf(impl.Term{Kind: kind, Path: "/a", Value: v}))
		}
	}
}

func TestPromise19FiltersOfAnyKindAndKids(t *testing.T) {
	base := and(not(eq("/a", "[1]")), or(in("", "[2]"), has("/b"))).filter()
	numbers := []int{least, least + 1, -1000, -2, -1, 0, 1, 2, 3, 4, 5, 6, 7, 8, 9, 10, 1000, greatest - 1, greatest}
	for k := range base.Terms {
		for _, n := range numbers {
			ofKind, withKid := moved(base.Terms, 0), moved(base.Terms, 0)
			ofKind[k].Kind = n
			withKid[k].Kids = append(withKid[k].Kids, n)
			alone := moved(base.Terms, 0)
			alone[k].Kids = []int{n}
			for _, terms := range [][]impl.Term{ofKind, withKid, alone} {
				f := impl.Filter{Terms: terms}
				if want := oracleGoodFilter(f); impl.GoodFilter(f) != want {
					t.Errorf("GoodFilter is not %v: %v", want, f)
				} else if !want {
					wantNoFilter(t, "changed", f)
				}
			}
		}
	}
}

func TestPromise19FiltersOfValuesThatAreNotGood(t *testing.T) {
	one := impl.NumberOf(1)
	for _, w := range []wish{and(), or(), has(""), has("/a"), eq("", "1"), lt("/0", "1"), in("/a", "[1]"), not(gt("", "0"))} {
		f := w.filter()
		for what, v := range badValues() {
			if yes, ok := impl.MatchFilter(f, v); ok || yes {
				t.Errorf("%s: MatchFilter(%s) is %v %v", what, w.text(), yes, ok)
			}
			for _, l := range [][]impl.Value{{v}, {v, one, one}, {one, v, one}, {one, one, v}} {
				if got, ok := impl.SelectValues(f, l); ok || len(got) != 0 {
					t.Errorf("%s: SelectValues(%s) is %v %v", what, w.text(), got, ok)
				}
			}
			last := append(slices.Repeat([]impl.Value{one}, 59), v)
			if got, ok := impl.SelectValues(f, last); ok || len(got) != 0 {
				t.Errorf("%s: SelectValues(%s) of 60 is %v %v", what, w.text(), got, ok)
			}
		}
	}
}

// laidOut is the same filter with something behind the length of each list.
func laidOut(f impl.Filter) impl.Filter {
	var terms []impl.Term
	for _, term := range f.Terms {
		nodes := slices.Concat(term.Value.Nodes, []impl.Node{{Kind: impl.KindNumber, Num: 5}, {Kind: 99, Text: "behind"}})
		kids := slices.Concat(term.Kids, []int{len(f.Terms) - 1, -99})
		term.Value.Nodes = nodes[:len(term.Value.Nodes)]
		term.Kids = kids[:len(term.Kids)]
		terms = append(terms, term)
	}
	terms = append(terms, aboveTerm(impl.TermNot, len(terms)-1), impl.Term{Kind: 99, Path: "behind"})
	return impl.Filter{Terms: terms[:len(f.Terms)]}
}

// wholeMemory is a copy of all that a filter's lists hold, also of what lies behind their lengths.
func wholeMemory(f impl.Filter) impl.Filter {
	var terms []impl.Term
	for _, term := range f.Terms[:cap(f.Terms)] {
		term.Kids = slices.Clone(term.Kids[:cap(term.Kids)])
		term.Value.Nodes = slices.Clone(term.Value.Nodes[:cap(term.Value.Nodes)])
		terms = append(terms, term)
	}
	return impl.Filter{Terms: terms}
}

func spoilTerm(term *impl.Term) {
	spoilNodes(term.Value.Nodes)
	spoilNumbers(term.Kids)
	term.Kind, term.Path = 77, "spoilt"
}

func spoilWholeFilter(f impl.Filter) {
	for k := range f.Terms {
		spoilTerm(&f.Terms[k])
	}
	_ = append(f.Terms, impl.Term{Kind: 78})
}

func wantNothingBehindFilter(t *testing.T, what string, f impl.Filter) {
	t.Helper()
	for _, term := range f.Terms[len(f.Terms):cap(f.Terms)] {
		if !sameTerm(term, impl.Term{}) {
			t.Errorf("%s: behind the answer lies %v", what, term)
		}
	}
	for _, term := range f.Terms {
		wantNothingBehind(t, what, term.Value.Nodes)
		for _, kid := range term.Kids[len(term.Kids):cap(term.Kids)] {
			if kid != 0 {
				t.Errorf("%s: behind the kids lies %d", what, kid)
			}
		}
	}
}

func filterCalls() map[string]func(impl.Filter, impl.Filter) (impl.Filter, bool) {
	return map[string]func(impl.Filter, impl.Filter) (impl.Filter, bool){
		"NegateFilter":             func(a impl.Filter, _ impl.Filter) (impl.Filter, bool) { return impl.NegateFilter(a) },
		"PlainFilter":              func(a impl.Filter, _ impl.Filter) (impl.Filter, bool) { return impl.PlainFilter(a) },
		"AndFilters":               impl.AndFilters,
		"AndFilters, turned round": func(a impl.Filter, b impl.Filter) (impl.Filter, bool) { return impl.AndFilters(b, a) },
		"AndFilters of one twice":  func(a impl.Filter, _ impl.Filter) (impl.Filter, bool) { return impl.AndFilters(a, a) },
	}
}

// shareFilters are good filters and one that is not, whose lists are of every length.
func shareFilters() []impl.Filter {
	d := &dice{state: 59}
	l := []impl.Filter{
		has("/a").filter(),
		and().filter(),
		filterOf(impl.Term{Kind: impl.TermAnd, Value: impl.Value{Nodes: []impl.Node{}}, Kids: []int{}}),
		eq("/a", `{"x":[1,"y"]}`).filter(),
		not(and(in("/a", "[1,[2],3]"), eq("", "{}"), or())).filter(),
		not(not(or(lt("/a", "[7]"), gt("/b", `"x"`), not(not(has("/c")))))).filter(),
		filterOf(hasTerm(), aboveTerm(impl.TermNot, 7)),
	}
	for range 20 {
		l = append(l, d.filter(1+d.below(20)))
	}
	return l
}

func TestPromise19FiltersStayAsTheyWere(t *testing.T) {
	values := []impl.Value{mustRead(t, `{"a":[1,{"b":2}],"b":0}`), impl.NumberOf(1), {}, mustRead(t, "[]")}
	for _, f := range shareFilters() {
		arg, other := laidOut(f), laidOut(not(in("/a", "[1]")).filter())
		before, otherBefore := wholeMemory(arg), wholeMemory(other)
		for name, call := range filterCalls() {
			got, ok := call(arg, other)
			want, wantOk := call(f, not(in("/a", "[1]")).filter())
			if ok != wantOk || !sameFilter(got, want) {
				t.Errorf("%s is %v %v, not %v %v", name, got, ok, want, wantOk)
			}
			wantNothingBehindFilter(t, name, got)
			spoilWholeFilter(got)
			spoilWholeFilter(want)
		}
		wantSameOfFilter(t, arg, f, values)
		if !sameFilter(wholeMemory(arg), before) || !sameFilter(wholeMemory(other), otherBefore) {
			t.Errorf("written into: %v %v, before %v", wholeMemory(arg), wholeMemory(other), before)
		}
	}
}

// wantSameOfFilter asks for the same answers with and without memory behind the lengths.
func wantSameOfFilter(t *testing.T, arg impl.Filter, f impl.Filter, values []impl.Value) {
	t.Helper()
	if impl.GoodFilter(arg) != impl.GoodFilter(f) {
		t.Errorf("GoodFilter reads what lies behind a length: %v", f)
	}
	many, nots, ok := impl.TermsIn(arg)
	if wantMany, wantNots, wantOk := impl.TermsIn(f); many != wantMany || nots != wantNots || ok != wantOk {
		t.Errorf("TermsIn reads what lies behind a length: %v", f)
	}
	for k, v := range values {
		memory := slices.Concat(v.Nodes, []impl.Node{{Kind: impl.KindNumber, Num: 5}, {Kind: 99, Text: "behind"}})
		before := slices.Clone(memory)
		trimmed := impl.Value{Nodes: memory[:len(v.Nodes)]}
		yes, ok := impl.MatchFilter(arg, trimmed)
		if want, wantOk := impl.MatchFilter(f, v); yes != want || ok != wantOk {
			t.Errorf("MatchFilter is %v %v, not %v %v: %v", yes, ok, want, wantOk, f)
		}
		l := []impl.Value{trimmed, values[0], {Nodes: memory}}
		got, ok := impl.SelectValues(arg, l[:2])
		if want, wantOk := impl.SelectValues(f, []impl.Value{v, values[0]}); !slices.Equal(got, want) || ok != wantOk {
			t.Errorf("SelectValues is %v %v, not %v %v: %v", got, ok, want, wantOk, f)
		}
		spoilNumbers(got)
		if !slices.Equal(memory, before) || !sameValue(l[0], values[k]) || !sameValue(l[1], values[0]) || len(l[2].Nodes) != len(memory) {
			t.Errorf("the values are written into: %v", l)
		}
	}
}

func TestPromise19FilterAnswersShareNothing(t *testing.T) {
	other := not(in("/a", "[1,[2]]")).filter()
	for _, f := range shareFilters() {
		for name, call := range filterCalls() {
			arg, second := impl.Filter{Terms: moved(f.Terms, 0)}, wishOf(other).filter()
			for k := range arg.Terms {
				arg.Terms[k].Value.Nodes = slices.Clone(arg.Terms[k].Value.Nodes)
			}
			one, _ := call(arg, second)
			two, ok := call(arg, second)
			want := wholeMemory(two)
			spoilWholeFilter(one)
			if !sameFilter(arg, f) || !sameFilter(second, other) {
				t.Errorf("%s: an argument changed with an answer: %v", name, arg)
			}
			three, threeOk := call(arg, second)
			if !sameFilter(wholeMemory(two), want) || !sameFilter(three, two) || ok != threeOk {
				t.Errorf("%s: answers share memory: %v %v", name, two, three)
			}
			spoilWholeFilter(arg)
			spoilWholeFilter(second)
			if !sameFilter(wholeMemory(two), want) {
				t.Errorf("%s: the answer changed with an argument: %v", name, two)
			}
			wantListsApart(t, name, two)
		}
	}
}

// wantListsApart spoils the lists of one term after the other: those behind it must stay.
func wantListsApart(t *testing.T, what string, f impl.Filter) {
	t.Helper()
	before := wholeMemory(f)
	for k := range f.Terms {
		spoilTerm(&f.Terms[k])
		if now := wholeMemory(f); !slices.EqualFunc(now.Terms[k+1:], before.Terms[k+1:], sameTerm) {
			t.Fatalf("%s: lists of one answer share memory: %v, before %v", what, now, before)
		}
	}
}

func TestPromise19SelectedNumbersShareNothing(t *testing.T) {
	l, f := sevenValues(t), gt("/a", "2").filter()
	first, _ := impl.SelectValues(f, l)
	second, _ := impl.SelectValues(f, l)
	spoilNumbers(first)
	third, ok := impl.SelectValues(f, l)
	if want := []int{1, 4, 6}; !ok || !slices.Equal(second, want) || !slices.Equal(third, want) {
		t.Errorf("SelectValues: answers share memory: %v %v", second, third)
	}
	for _, n := range third[len(third):cap(third)] {
		if n != 0 {
			t.Errorf("behind the answer lies %d", n)
		}
	}
}
