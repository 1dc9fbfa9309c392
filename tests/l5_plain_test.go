package tests

import (
	"slices"
	"testing"

	"loop.example/g00274/impl"
)

// wantPlain asks for the terms themselves; what is plain already is the same again.
func wantPlain(t *testing.T, w wish, want wish) {
	t.Helper()
	got, ok := impl.PlainFilter(w.filter())
	wantFilter(t, "PlainFilter "+w.text(), got, ok, want.filter())
	again, ok := impl.PlainFilter(got)
	wantFilter(t, "PlainFilter again "+w.text(), again, ok, want.filter())
}

func aloneWishes() []wish {
	return []wish{eq("/a", "1"), lt("/a", `"x"`), gt("", "[1,{}]"), has("/a/0"), in("/b", "[1,[2]]"), in("", "[]")}
}

func TestPromise5WhatStandsAloneIsPlain(t *testing.T) {
	for _, w := range aloneWishes() {
		wantPlain(t, w, w)
		wantPlain(t, not(w), not(w))
		wantPlain(t, and(w), and(w))
		wantPlain(t, or(w), or(w))
		wantPlain(t, or(and(w, not(w)), not(w)), or(and(w, not(w)), not(w)))
	}
}

func TestPromise5TurnedTwiceIsNotTurned(t *testing.T) {
	for _, w := range aloneWishes() {
		wantPlain(t, not(not(w)), w)
		wantPlain(t, not(not(not(w))), not(w))
		wantPlain(t, not(not(not(not(w)))), w)
		wantPlain(t, and(not(not(w)), not(not(not(w)))), and(w, not(w)))
		wantPlain(t, not(or(not(w), not(not(w)), w)), and(w, not(w), not(w)))
	}
	both := and(has("/a"), or(has("/b"), has("/c")))
	turned := or(not(has("/a")), and(not(has("/b")), not(has("/c"))))
	wantPlain(t, not(not(both)), both)
	wantPlain(t, not(not(not(both))), turned)
	wantPlain(t, not(turned), both)
	wantPlain(t, not(and(not(both))), or(both))
	wantPlain(t, not(and(not(not(both)), not(turned))), or(turned, turned))
}

func TestPromise5PlainTermsWithoutKids(t *testing.T) {
	wantPlain(t, and(), and())
	wantPlain(t, or(), or())
	wantPlain(t, not(and()), or())
	wantPlain(t, not(or()), and())
	wantPlain(t, not(not(and())), and())
	wantPlain(t, not(not(or())), or())
	wantPlain(t, not(not(not(and()))), or())
	wantPlain(t, not(not(not(or()))), and())
	wantPlain(t, and(not(and()), not(or()), and(), or()), and(or(), and(), and(), or()))
	wantPlain(t, not(or(and(), or(), not(and()), not(or()))), and(or(), and(), and(), or()))
}

func TestPromise5AllIsTurnedIntoOneAndTheOtherWayRound(t *testing.T) {
	a, b, c, e := has("/a"), eq("/b", "2"), lt("/c", "3"), in("/e", "[5]")
	wantPlain(t, not(and(a)), or(not(a)))
	wantPlain(t, not(or(a)), and(not(a)))
	wantPlain(t, not(and(a, b)), or(not(a), not(b)))
	wantPlain(t, not(or(a, b, c)), and(not(a), not(b), not(c)))
	wantPlain(t, not(and(or(a, b), or(c, e))), or(and(not(a), not(b)), and(not(c), not(e))))
	wantPlain(t, not(or(and(a, not(b)), not(and(c, e)))), and(or(not(a), b), and(c, e)))
	wantPlain(t, and(not(or(a, b)), or(c, not(and(e, a)))), and(and(not(a), not(b)), or(c, or(not(e), not(a)))))
	wantPlain(t, not(and(and(and(and(a))))), or(or(or(or(not(a))))))
}

// The terms stand in other orders than plain ones, always with kids ahead.
func TestPromise5PlainTermsStandKidsFirst(t *testing.T) {
	one, two, three := has("/1").filter().Terms[0], has("/2").filter().Terms[0], has("/3").filter().Terms[0]
	above := func(kind int, kids ...int) impl.Term { return impl.Term{Kind: kind, Kids: kids} }
	for _, c := range []struct {
		terms []impl.Term
		want  wish
	}{
		{[]impl.Term{one, two, above(impl.TermNot, 0), above(impl.TermAnd, 1, 2)}, and(has("/2"), not(has("/1")))},
		{[]impl.Term{one, two, three, above(impl.TermOr, 0, 2), above(impl.TermAnd, 1, 3)}, and(has("/2"), or(has("/1"), has("/3")))},
		{[]impl.Term{one, two, three, above(impl.TermOr, 1), above(impl.TermOr, 0, 2), above(impl.TermAnd, 3, 4)}, and(or(has("/2")), or(has("/1"), has("/3")))},
		{[]impl.Term{one, two, above(impl.TermOr), above(impl.TermNot, 1), above(impl.TermNot, 0), above(impl.TermAnd, 2, 3, 4)}, and(or(), not(has("/2")), not(has("/1")))},
		{[]impl.Term{one, two, three, above(impl.TermAnd, 0, 2), above(impl.TermOr, 1, 3), above(impl.TermNot, 4)}, and(not(has("/2")), or(not(has("/1")), not(has("/3"))))},
		{[]impl.Term{one, two, above(impl.TermNot, 0), above(impl.TermNot, 1), above(impl.TermNot, 2), above(impl.TermOr, 3, 4)}, or(not(has("/2")), has("/1"))},
	} {
		f := impl.Filter{Terms: c.terms}
		if !oracleGoodFilter(f) {
			t.Fatalf("the test is not as it says: %v", f)
		}
		got, ok := impl.PlainFilter(f)
		wantFilter(t, "PlainFilter", got, ok, c.want.filter())
	}
}

// wantPlainForm asks for what the promise says of the answer itself.
func wantPlainForm(t *testing.T, f impl.Filter) {
	t.Helper()
	for k, term := range f.Terms {
		if term.Kind == impl.TermNot && f.Terms[term.Kids[0]].Kind > impl.TermIn {
			t.Errorf("TermNot %d has a kid that does not stand alone: %v", k, f)
		}
		// Each with all its own ahead of the next one: so a kid stands right ahead of what the next kid begins with.
		next := k
		for _, kid := range slices.Backward(term.Kids) {
			if kid != next-1 {
				t.Errorf("kid %d of %d does not stand where its own end: %v", kid, k, f)
			}
			next = firstOwn(f.Terms, kid)
		}
	}
}

func firstOwn(terms []impl.Term, k int) int {
	first := k
	for _, kid := range terms[k].Kids {
		first = min(first, firstOwn(terms, kid))
	}
	return first
}

func TestPromise5PlainFiltersAgainstTrees(t *testing.T) {
	d := &dice{state: 56}
	made, refused, other := 0, 0, 0
	for range 6000 {
		f := d.filter(1 + d.below(20))
		w := wishOf(f)
		want := w.plain(false)
		got, ok := impl.PlainFilter(f)
		if want.size() > 20 {
			refused++
			wantZeroFilter(t, "PlainFilter "+w.text(), got, ok)
			continue
		}
		made++
		if want.text() != w.text() {
			other++
		}
		wantFilter(t, "PlainFilter "+w.text(), got, ok, want.filter())
		wantPlainForm(t, got)
		for range 4 {
			wantSameMatch(t, f, got, d.doc())
		}
	}
	if made < 4000 || refused < 20 || other < 2000 {
		t.Errorf("%d made (%d of them other ones), %d refused: that tells little", made, other, refused)
	}
}

func wantSameMatch(t *testing.T, f impl.Filter, plain impl.Filter, x tree) {
	t.Helper()
	one, oneOk := impl.MatchFilter(f, x.value())
	two, twoOk := impl.MatchFilter(plain, x.value())
	if !oneOk || !twoOk || one != two {
		t.Errorf("%s: %v %v by %s, %v %v by %s", x.tidy(), one, oneOk, wishOf(f).text(), two, twoOk, wishOf(plain).text())
	}
}

func TestPromise5PlainOfNegatedFilters(t *testing.T) {
	d := &dice{state: 57}
	for range 2000 {
		f := d.filter(1 + d.below(12))
		turned, _ := impl.NegateFilter(f)
		twice, _ := impl.NegateFilter(turned)
		plain, ok := impl.PlainFilter(f)
		same, sameOk := impl.PlainFilter(twice)
		if ok != sameOk || !sameFilter(plain, same) {
			t.Errorf("PlainFilter of twice negated %v is %v %v, not %v %v", f, same, sameOk, plain, ok)
		}
		other, ok := impl.PlainFilter(turned)
		if !ok {
			continue
		}
		for range 4 {
			v := d.doc().value()
			yes, _ := impl.MatchFilter(f, v)
			if no, ok := impl.MatchFilter(other, v); !ok || no == yes {
				t.Errorf("plain negated %v: %v, not negated %v", f, no, yes)
			}
		}
	}
}

func TestPromise5PlainFilterAtMaxTerms(t *testing.T) {
	turnedNumbered := func(many int) []wish {
		var l []wish
		for _, w := range numbered(many) {
			l = append(l, not(w))
		}
		return l
	}
	// Nine terms that are turned and two above them are 20; ten and one above them are 21.
	wantPlain(t, not(and(append(numbered(9), and())...)), or(append(turnedNumbered(9), or())...))
	wantPlain(t, not(or(and(numbered(9)...))), and(or(turnedNumbered(9)...)))
	for _, w := range []wish{not(and(numbered(10)...)), not(or(numbered(10)...)), not(and(or(numbered(10)...))),
		not(and(numbered(18)...)), not(or(append(numbered(9), and(), or())...)), and(not(or(append(numbered(9), or())...)))} {
		if w.size() > 20 || w.plain(false).size() < 21 {
			t.Fatalf("the test is not as it says: %s", w.text())
		}
		got, ok := impl.PlainFilter(w.filter())
		wantZeroFilter(t, "PlainFilter "+w.text(), got, ok)
	}
	// What has 20 terms may stay so, or have fewer.
	wantPlain(t, and(numbered(19)...), and(numbered(19)...))
	wantPlain(t, or(append(turnedNumbered(9), and())...), or(append(turnedNumbered(9), and())...))
	wantPlain(t, not(and(turnedNumbered(9)...)), or(numbered(9)...))
	wantPlain(t, notTimes(19, has("/a")), not(has("/a")))
	wantPlain(t, notTimes(18, and()), and())
}
