package tests

import (
	"slices"
	"strconv"
	"strings"
	"testing"

	"loop.example/g00274/impl"
)

func TestFilterConstants(t *testing.T) {
	got := []int{impl.MaxTerms, impl.TermEq, impl.TermLt, impl.TermGt, impl.TermHas, impl.TermIn, impl.TermAnd, impl.TermOr, impl.TermNot}
	if want := []int{20, 1, 2, 3, 4, 5, 6, 7, 8}; !slices.Equal(got, want) {
		t.Errorf("constants are %v, not %v", got, want)
	}
}

func TestPromise5ValuesThatAreComparedWithOneAnother(t *testing.T) {
	l := rising()
	for k, at := range l {
		for i, asked := range l {
			alike := treeIn(at).kind == treeIn(asked).kind
			for _, place := range []struct{ path, doc string }{{"", at}, {"/a", `{"a":` + at + `}`}} {
				// What is as deep as can be stands in no map.
				if _, good := oracleRead(place.doc); !good {
					continue
				}
				wantMatch(t, eq(place.path, asked), place.doc, k == i)
				wantMatch(t, lt(place.path, asked), place.doc, alike && k < i)
				wantMatch(t, gt(place.path, asked), place.doc, alike && k > i)
			}
		}
	}
}

func TestPromise5ValuesOfUnlikeKinds(t *testing.T) {
	l := []string{"null", "false", "true", "0", `""`, "[]", "{}"}
	for _, at := range l {
		for _, asked := range l {
			wantMatch(t, eq("/a", asked), `{"a":`+at+`}`, at == asked)
			wantMatch(t, lt("/a", asked), `{"a":`+at+`}`, false)
			wantMatch(t, gt("/a", asked), `{"a":`+at+`}`, false)
			wantMatch(t, not(lt("/a", asked)), `{"a":`+at+`}`, true)
			wantMatch(t, not(gt("/a", asked)), `{"a":`+at+`}`, true)
		}
	}
	// Lists are of one Kind, whatever their parts are.
	wantMatch(t, lt("", "[true]"), "[false]", true)
	wantMatch(t, gt("", "[true]"), "[0]", true)
	wantMatch(t, lt("", `{"a":"x"}`), `{"a":5}`, true)
	wantMatch(t, lt("", `{"a":"x"}`), `["z"]`, false)
}

func TestPromise5PathsThatLeadToNothing(t *testing.T) {
	doc := `{"a":[1,{"b":2}],"c":{"d":null},"~/":3}`
	for _, path := range []string{"", "/a", "/a/0", "/a/1", "/a/1/b", "/c", "/c/d", "/~0~1"} {
		wantMatch(t, has(path), doc, true)
		wantMatch(t, not(has(path)), doc, false)
	}
	for _, path := range []string{"/", "/b", "/a/2", "/a/-1", "/a/00", "/a/b", "/a/0/0", "/c/d/e", "/c/D", "/d", "/~0"} {
		for _, w := range []wish{has(path), eq(path, "null"), eq(path, "1"), lt(path, "9"), lt(path, "null"), gt(path, "0"), gt(path, "null"),
			in(path, "[]"), in(path, "[null,1,2,3]")} {
			wantMatch(t, w, doc, false)
			wantMatch(t, not(w), doc, true)
		}
	}
	for _, text := range []string{"null", "1", `"a"`, "[]", "{}"} {
		wantMatch(t, has(""), text, true)
		wantMatch(t, has("/a"), text, false)
		wantMatch(t, has("/0"), text, false)
	}
}

func TestPromise5OneOfAList(t *testing.T) {
	list := `[1,"a",[],[1],[[1]],{},{"b":[2]},null,true]`
	for _, at := range []string{"1", `"a"`, "[]", "[1]", "[[1]]", "{}", `{"b":[2]}`, "null", "true"} {
		wantMatch(t, in("/x", list), `{"x":`+at+`}`, true)
		wantMatch(t, in("/x", list), `{"y":`+at+`}`, false)
		wantMatch(t, in("", list), at, true)
		wantMatch(t, in("/0", "["+at+"]"), "["+at+"]", true)
		wantMatch(t, in("/x", "["+at+","+at+"]"), `{"x":`+at+`}`, true)
		wantMatch(t, in("/x", "[]"), `{"x":`+at+`}`, false)
		wantMatch(t, not(in("/x", "[]")), `{"x":`+at+`}`, true)
	}
	for _, at := range []string{"2", "-1", `"b"`, `""`, `"1"`, "[2]", "[[]]", "[1,1]", `{"b":2}`, `{"b":[]}`, `{"c":[2]}`, "[{}]", "false", "[null]", list} {
		wantMatch(t, in("/x", list), `{"x":`+at+`}`, false)
		wantMatch(t, not(in("/x", list)), `{"x":`+at+`}`, true)
	}
	// A part of a part is none of the list's own.
	wantMatch(t, in("", "[[7]]"), "7", false)
	wantMatch(t, in("", `[{"a":7}]`), "7", false)
	wantMatch(t, in("", "[[[]]]"), "[]", false)
	wantMatch(t, in("", "[]"), "[]", false)
}

func TestPromise5AllAndOneOfTheKids(t *testing.T) {
	yes, no := has("/a"), has("/b")
	doc := `{"a":1}`
	for text, want := range map[string]bool{"": true, "y": true, "n": false, "yy": true, "yn": false, "ny": false, "nn": false, "yyyn": false, "nyyy": false} {
		wantMatch(t, and(pick(text, yes, no)...), doc, want)
		wantMatch(t, not(and(pick(text, yes, no)...)), doc, !want)
	}
	for text, want := range map[string]bool{"": false, "y": true, "n": false, "yy": true, "yn": true, "ny": true, "nn": false, "nnny": true, "ynnn": true} {
		wantMatch(t, or(pick(text, yes, no)...), doc, want)
		wantMatch(t, not(or(pick(text, yes, no)...)), doc, !want)
	}
	wantMatch(t, and(or(no, yes), not(and(yes, no)), or(yes)), doc, true)
	wantMatch(t, or(and(no, yes), not(or(yes, no)), and(no)), doc, false)
}

func pick(text string, yes wish, no wish) []wish {
	var l []wish
	for _, c := range text {
		if c == 'y' {
			l = append(l, yes)
		} else {
			l = append(l, no)
		}
	}
	return l
}

func TestPromise5TermsWithoutKids(t *testing.T) {
	for _, doc := range []string{"null", "1", "[]", "{}", `{"a":1}`} {
		wantMatch(t, and(), doc, true)
		wantMatch(t, or(), doc, false)
		wantMatch(t, not(and()), doc, false)
		wantMatch(t, not(or()), doc, true)
		wantMatch(t, not(not(and())), doc, true)
		wantMatch(t, not(not(or())), doc, false)
		wantMatch(t, and(or()), doc, false)
		wantMatch(t, or(and()), doc, true)
		wantMatch(t, and(and(), not(or())), doc, true)
	}
}

func TestPromise5MatchesAgainstTrees(t *testing.T) {
	d := &dice{state: 51}
	yes := 0
	for range 3000 {
		f := d.filter(1 + d.below(20))
		w := wishOf(f)
		for range 5 {
			x := d.doc()
			want := w.matches(x)
			if want {
				yes++
			}
			if got, ok := impl.MatchFilter(f, x.value()); !ok || got != want {
				t.Errorf("MatchFilter(%s, %s) is %v %v", w.text(), x.tidy(), got, ok)
			}
		}
	}
	if yes < 4000 || yes > 11000 {
		t.Errorf("%d of 15000 match: that tells little", yes)
	}
}

func TestPromise5NegateFilter(t *testing.T) {
	for _, w := range []wish{eq("/a", "1"), lt("", "[]"), gt("/a", `"x"`), has("/a"), in("/a", "[1,2]"), and(), or(), and(has("/a"), or()), not(has("/a")), not(not(and()))} {
		got, ok := impl.NegateFilter(w.filter())
		wantFilter(t, "NegateFilter "+w.text(), got, ok, not(w).filter())
		again, ok := impl.NegateFilter(got)
		wantFilter(t, "NegateFilter twice "+w.text(), again, ok, not(not(w)).filter())
	}
}

func TestPromise5NegateFilterMatchesTheOthers(t *testing.T) {
	d := &dice{state: 52}
	for range 2000 {
		f := d.filter(1 + d.below(19))
		got, ok := impl.NegateFilter(f)
		if size := len(f.Terms); !ok || len(got.Terms) != size+1 || !sameFilter(impl.Filter{Terms: got.Terms[:size]}, f) ||
			!sameTerm(got.Terms[size], impl.Term{Kind: impl.TermNot, Kids: []int{size - 1}}) {
			t.Fatalf("NegateFilter(%v) is %v %v", f, got, ok)
		}
		for range 4 {
			v := d.doc().value()
			one, oneOk := impl.MatchFilter(f, v)
			other, otherOk := impl.MatchFilter(got, v)
			if !oneOk || !otherOk || one == other {
				t.Errorf("%v and its negation: %v %v, %v %v", f, one, oneOk, other, otherOk)
			}
		}
	}
}

func TestPromise5AndFilters(t *testing.T) {
	a, b := and(eq("/a", "1"), not(has("/b"))), or(in("/c", "[2]"), not(not(lt("/d", "3"))))
	for _, one := range []wish{a, b, has("/x"), and(), not(or())} {
		for _, two := range []wish{a, b, has("/x"), and(), not(or())} {
			got, ok := impl.AndFilters(one.filter(), two.filter())
			wantFilter(t, "AndFilters "+one.text()+" "+two.text(), got, ok, and(one, two).filter())
		}
	}
	got, ok := impl.AndFilters(a.filter(), not(b).filter())
	if !ok || !slices.Equal(got.Terms[8].Kids, []int{4, 7}) || !slices.Equal(got.Terms[6].Kids, []int{5}) ||
		!slices.Equal(got.Terms[9].Kids, []int{8}) || !slices.Equal(got.Terms[10].Kids, []int{3, 9}) {
		t.Errorf("AndFilters: kids are %v %v", got, ok)
	}
}

// moved are terms with so much more as numbers of their kids.
func moved(terms []impl.Term, more int) []impl.Term {
	var l []impl.Term
	for _, term := range terms {
		term.Kids = slices.Clone(term.Kids)
		for k := range term.Kids {
			term.Kids[k] += more
		}
		l = append(l, term)
	}
	return l
}

func TestPromise5AndFiltersMatchWhatBothDo(t *testing.T) {
	d := &dice{state: 53}
	yes := 0
	for range 2000 {
		a, b := d.filter(1+d.below(9)), d.filter(1+d.below(10))
		got, ok := impl.AndFilters(a, b)
		many := len(a.Terms)
		last := impl.Term{Kind: impl.TermAnd, Kids: []int{many - 1, many + len(b.Terms) - 1}}
		wantFilter(t, "AndFilters", got, ok, impl.Filter{Terms: slices.Concat(a.Terms, moved(b.Terms, many), []impl.Term{last})})
		for range 4 {
			v := d.doc().value()
			one, _ := impl.MatchFilter(a, v)
			two, _ := impl.MatchFilter(b, v)
			if both, ok := impl.MatchFilter(got, v); !ok || both != (one && two) {
				t.Errorf("%v and %v: %v %v, both: %v %v", a, b, one, two, both, ok)
			} else if both {
				yes++
			}
		}
	}
	if yes < 800 {
		t.Errorf("%d match: that tells little", yes)
	}
}

// sevenValues are documents of which a filter for /a above 2 takes those with the numbers 1, 4 and 6.
func sevenValues(t *testing.T) []impl.Value {
	var l []impl.Value
	for _, s := range []string{`{"a":2}`, `{"a":3}`, `{"b":5}`, "7", `{"a":1000000000}`, `{"a":"9"}`, `{"a":4,"b":[]}`} {
		l = append(l, mustRead(t, s))
	}
	return l
}

func wantSelected(t *testing.T, w wish, l []impl.Value, want ...int) {
	t.Helper()
	if got, ok := impl.SelectValues(w.filter(), l); !ok || !slices.Equal(got, want) {
		t.Errorf("SelectValues(%s) is %v %v, not %v", w.text(), got, ok, want)
	}
}

func TestPromise5SelectValues(t *testing.T) {
	l := sevenValues(t)
	wantSelected(t, gt("/a", "2"), l, 1, 4, 6)
	wantSelected(t, not(gt("/a", "2")), l, 0, 2, 3, 5)
	wantSelected(t, and(), l, 0, 1, 2, 3, 4, 5, 6)
	wantSelected(t, or(), l)
	wantSelected(t, eq("", "7"), l, 3)
	wantSelected(t, has("/b"), l, 2, 6)
	wantSelected(t, in("/a", `["9",2]`), []impl.Value{l[5], l[0], l[1], l[5]}, 0, 1, 3)
	for _, w := range []wish{and(), or(), has("/a"), not(has("/a"))} {
		for _, none := range [][]impl.Value{nil, {}, l[:0]} {
			wantSelected(t, w, none)
		}
	}
}

func TestPromise5SelectValuesAtItsLimit(t *testing.T) {
	var all, even []int
	var l []impl.Value
	for k := range 60 {
		all = append(all, k)
		if k%2 == 0 {
			even = append(even, k)
		}
		l = append(l, impl.NumberOf(k%2))
	}
	wantSelected(t, and(), l, all...)
	wantSelected(t, eq("", "0"), l, even...)
	wantSelected(t, or(), l)
	for _, many := range []int{61, 62, 1000, 100000} {
		longer := slices.Repeat([]impl.Value{impl.NumberOf(0)}, many)
		for _, w := range []wish{and(), or(), eq("", "0")} {
			if got, ok := impl.SelectValues(w.filter(), longer); ok || len(got) != 0 {
				t.Errorf("SelectValues of %d is %v %v", many, got, ok)
			}
		}
	}
}

func TestPromise5SelectValuesIsMatchFilterOfEach(t *testing.T) {
	d := &dice{state: 54}
	for range 500 {
		f := d.filter(1 + d.below(20))
		var l []impl.Value
		var want []int
		for k := range d.below(20) {
			l = append(l, d.doc().value())
			if yes, _ := impl.MatchFilter(f, l[k]); yes {
				want = append(want, k)
			}
		}
		if got, ok := impl.SelectValues(f, l); !ok || !slices.Equal(got, want) {
			t.Errorf("SelectValues(%v) is %v %v, not %v", f, got, ok, want)
		}
	}
}

func wantTermsIn(t *testing.T, f impl.Filter, many int, nots int) {
	t.Helper()
	if got, gotNots, ok := impl.TermsIn(f); !ok || got != many || gotNots != nots {
		t.Errorf("TermsIn(%v) is %d %d %v", f, got, gotNots, ok)
	}
}

func TestPromise5TermsIn(t *testing.T) {
	wantTermsIn(t, has("").filter(), 1, 0)
	wantTermsIn(t, and().filter(), 1, 0)
	wantTermsIn(t, not(or()).filter(), 2, 1)
	wantTermsIn(t, not(not(not(has("/a")))).filter(), 4, 3)
	wantTermsIn(t, and(not(eq("/a", "1")), not(in("/a", "[]")), lt("", "2")).filter(), 6, 2)
	wantTermsIn(t, and(numbered(19)...).filter(), 20, 0)
	d := &dice{state: 55}
	for range 500 {
		f := d.filter(1 + d.below(20))
		nots := strings.Count(wishOf(f).text(), "(not")
		wantTermsIn(t, f, len(f.Terms), nots)
	}
}

func TestPromise5NegateFilterAtMaxTerms(t *testing.T) {
	got, ok := impl.NegateFilter(and(numbered(18)...).filter())
	wantFilter(t, "NegateFilter of 19", got, ok, not(and(numbered(18)...)).filter())
	got, ok = impl.NegateFilter(and(numbered(19)...).filter())
	wantZeroFilter(t, "NegateFilter of 20", got, ok)
	f := or().filter()
	for many := 2; many <= 20; many++ {
		f, ok = impl.NegateFilter(f)
		if !ok {
			t.Fatalf("NegateFilter tells none with %d terms", many)
		}
		wantTermsIn(t, f, many, many-1)
	}
	got, ok = impl.NegateFilter(f)
	wantZeroFilter(t, "NegateFilter of 19 of TermNot", got, ok)
}

func TestPromise5AndFiltersAtMaxTerms(t *testing.T) {
	for many := 1; many <= 20; many++ {
		for other := 1; other <= 20; other++ {
			a, b := and(numbered(many-1)...), or(numbered(other-1)...)
			what := "AndFilters of " + strconv.Itoa(many) + " and " + strconv.Itoa(other)
			got, ok := impl.AndFilters(a.filter(), b.filter())
			if many+other+1 <= 20 {
				wantFilter(t, what, got, ok, and(a, b).filter())
			} else {
				wantZeroFilter(t, what, got, ok)
			}
		}
	}
}
