package tests

import (
	"slices"
	"strings"
	"testing"

	"loop.example/g00274/impl"
)

func TestPromise9BoundsOfTermsWrittenOut(t *testing.T) {
	for text, key := range map[string][2]string{
		`0`:                          {"\x04\x3b\x9a\xca\x00", "\x04\x3b\x9a\xca\x01"},
		`3`:                          {"\x04\x3b\x9a\xca\x03", "\x04\x3b\x9a\xca\x04"},
		`-1`:                         {"\x04\x3b\x9a\xc9\xff", "\x04\x3b\x9a\xca"},
		`255`:                        {"\x04\x3b\x9a\xca\xff", "\x04\x3b\x9a\xcb"},
		`6632959`:                    {"\x04\x3b\xff\xff\xff", "\x04\x3c"},
		`-1000000000`:                {"\x04\x00\x00\x00\x00", "\x04\x00\x00\x00\x01"},
		`1000000000`:                 {"\x04\x77\x35\x94\x00", "\x04\x77\x35\x94\x01"},
		`""`:                         {"\x05\x01", "\x05\x02"},
		`"x"`:                        {"\x05x\x01", "\x05x\x02"},
		`"3"`:                        {"\x053\x01", "\x053\x02"},
		`"~~"`:                       {"\x05~~\x01", "\x05~~\x02"},
		`"abcdefghijklmnopqrstuvwx"`: {"\x05abcdefghijklmnopqrstuvwx\x01", "\x05abcdefghijklmnopqrstuvwx\x02"},
	} {
		mark, next := "\x04", "\x05"
		if text[0] == '"' {
			mark, next = "\x05", "\x06"
		}
		for _, path := range []string{"/a", "", "/", "/a/0", "/~0~1", "/_id", strings.Repeat("/", 60)} {
			wantBounds(t, eq(path, text), path, key[0], key[1])
			wantBounds(t, lt(path, text), path, mark, key[0])
			wantBounds(t, gt(path, text), path, key[0], next)
		}
	}
}

func TestPromise9BoundsOfTermsThatTellNothing(t *testing.T) {
	for _, text := range []string{`null`, `false`, `true`, `[]`, `[3]`, `["x"]`, `{}`, `{"a":3}`} {
		for _, path := range []string{"/a", ""} {
			wantNoBounds(t, eq(path, text), path)
			wantNoBounds(t, lt(path, text), path)
			wantNoBounds(t, gt(path, text), path)
		}
	}
	for _, path := range []string{"/a", ""} {
		wantNoBounds(t, has(path), path)
		for _, text := range []string{`[]`, `[3]`, `["x"]`, `[3,4]`} {
			wantNoBounds(t, in(path, text), path)
		}
	}
}

func TestPromise9BoundsOfAnotherPath(t *testing.T) {
	for _, text := range []string{`3`, `"x"`} {
		for _, kind := range []int{impl.TermEq, impl.TermLt, impl.TermGt} {
			for _, other := range []string{"", "/", "/b", "/A", "/aa", "/a/", "/a/0", "/a/a", "//a", "/ a"} {
				wantNoBounds(t, ask(kind, "/a", text), other)
				wantNoBounds(t, ask(kind, other, text), "/a")
				wantNoBounds(t, and(ask(kind, other, text)), "/a")
			}
			// One path is written in one way alone; what looks like it leads elsewhere.
			wantNoBounds(t, ask(kind, "/~0", text), "/~1")
			wantNoBounds(t, ask(kind, "/a~1b", text), "/a/b")
		}
	}
}

func TestPromise9BoundsOfAnd(t *testing.T) {
	number := func(n int) string { return numberTree(n).key() }
	wantNoBounds(t, and(), "/a")
	wantNoBounds(t, and(), "")
	wantNoBounds(t, and(has("/a"), in("/a", `[1]`), eq("/a", `null`), eq("/b", `1`), or(), and()), "/a")
	wantBounds(t, and(eq("/a", `3`)), "/a", number(3), number(4))
	wantBounds(t, and(lt("/a", `3`), gt("/a", `1`)), "/a", number(1), number(3))
	wantBounds(t, and(gt("/a", `1`), lt("/a", `3`)), "/a", number(1), number(3))
	wantBounds(t, and(gt("/a", `1`), gt("/a", `5`), gt("/a", `3`)), "/a", number(5), "\x05")
	wantBounds(t, and(lt("/a", `7`), lt("/a", `2`), lt("/a", `3`)), "/a", "\x04", number(2))
	wantBounds(t, and(gt("/a", `1`), lt("/a", `9`), gt("/a", `2`), lt("/a", `8`), eq("/b", `5`), has("/a")), "/a", number(2), number(8))
	wantBounds(t, and(gt("/a", `1`), eq("/a", `4`), lt("/a", `9`)), "/a", number(4), number(5))
	// Kids that tell nothing do not count, wherever they stand.
	wantBounds(t, and(has("/a"), gt("/a", `1`)), "/a", number(1), "\x05")
	wantBounds(t, and(lt("/a", `1`), has("/a")), "/a", "\x04", number(1))
	wantBounds(t, and(has("/b"), lt("/b", `4`), eq("/a", `1`), or(eq("/a", `2`)), eq("/a", `[]`)), "/a", number(1), number(2))
	wantBounds(t, and(has("/b"), lt("/b", `4`), eq("/a", `1`), or(eq("/b", `2`))), "/b", "\x04", number(4))
	// Of what cannot match the bounds are told, too, though the first one lies behind the second one.
	wantBounds(t, and(lt("/a", `1`), gt("/a", `3`)), "/a", number(3), number(1))
	wantBounds(t, and(eq("/a", `1`), eq("/a", `3`)), "/a", number(3), number(2))
	wantBounds(t, and(eq("/a", `1`), eq("/a", `"x"`)), "/a", "\x05x\x01", number(2))
	wantBounds(t, and(lt("/a", `"x"`), gt("/a", `3`)), "/a", "\x05", "\x05")
	wantBounds(t, and(gt("/a", `"x"`), lt("/a", `"y"`)), "/a", "\x05x\x01", "\x05y\x01")
	wantBounds(t, and(gt("/a", `"9"`), lt("/a", `"10"`)), "/a", "\x059\x01", "\x0510\x01")
}

func TestPromise9BoundsOfAndWithinAnd(t *testing.T) {
	number := func(n int) string { return numberTree(n).key() }
	wantBounds(t, and(and(gt("/a", `1`)), and(lt("/a", `3`))), "/a", number(1), number(3))
	wantBounds(t, and(and(and(and(eq("/a", `1`))))), "/a", number(1), number(2))
	wantBounds(t, and(gt("/a", `5`), and(gt("/a", `7`), lt("/a", `20`)), lt("/a", `30`)), "/a", number(7), number(20))
	wantBounds(t, and(gt("/a", `8`), and(gt("/a", `7`), lt("/a", `20`), and(lt("/a", `10`))), lt("/a", `30`)), "/a", number(8), number(10))
	wantBounds(t, and(and(), and(has("/a")), and(lt("/a", `3`)), and(and())), "/a", "\x04", number(3))
	wantNoBounds(t, and(and(), and(has("/a"), and(eq("/b", `1`))), and(and())), "/a")
}

func TestPromise9BoundsOfOrAndNot(t *testing.T) {
	one := eq("/a", `1`)
	for _, w := range []wish{or(), or(one), or(one, one), or(and(one)), not(one), not(not(one)), not(and(one)), not(or(one)), or(not(not(one))), and(or(one)), and(not(one)), and(not(not(one))), and(or(and(one)), not(and(one)))} {
		wantNoBounds(t, w, "/a")
		wantNoBounds(t, w, "")
		wantBounds(t, and(w, gt("/a", `7`)), "/a", numberTree(7).key(), "\x05")
	}
}

// Terms may stand in any order that goes on from kids to what is above them.
func TestPromise9BoundsOfTermsInAnyOrder(t *testing.T) {
	term := func(kind int, n int) impl.Term {
		return impl.Term{Kind: kind, Path: "/a", Value: impl.NumberOf(n)}
	}
	f := filterOf(term(impl.TermGt, 1), term(impl.TermLt, 9), term(impl.TermGt, 3), aboveTerm(impl.TermOr, 2), aboveTerm(impl.TermAnd, 1), aboveTerm(impl.TermAnd, 0, 3, 4))
	if from, to, ok := impl.BoundsOf(f, "/a"); !ok || from != numberTree(1).key() || to != numberTree(9).key() {
		t.Errorf("BoundsOf is %q %q %v", from, to, ok)
	}
	// Terms stand ahead of a last one that is no and: the last one is the whole.
	f = filterOf(term(impl.TermGt, 1), term(impl.TermLt, 9), aboveTerm(impl.TermAnd, 0, 1), aboveTerm(impl.TermNot, 2))
	if from, to, ok := impl.BoundsOf(f, "/a"); !ok || from != "" || to != "" {
		t.Errorf("BoundsOf is %q %q %v", from, to, ok)
	}
}

func TestPromise9BoundsOfWhatIsNoFilterOrNoPath(t *testing.T) {
	f := and(eq("/a", `1`), gt("", `1`)).filter()
	for _, path := range []string{"a", " ", "/~", "/~2", "/a~", "/\x00", "/\x7f", "/é", "/a\n", strings.Repeat("/", 61), "/" + strings.Repeat("a", 25)} {
		if from, to, ok := impl.BoundsOf(f, path); ok || from != "" || to != "" {
			t.Errorf("BoundsOf at %q is %q %q %v", path, from, to, ok)
		}
	}
	for rule, bad := range brokenFilters() {
		for _, path := range []string{"/a", "", "/~"} {
			if from, to, ok := impl.BoundsOf(bad, path); ok || from != "" || to != "" {
				t.Errorf("%s: BoundsOf is %q %q %v", rule, from, to, ok)
			}
		}
	}
}

// All that matches has a key within the bounds: that is what they are for.
func TestPromise9AllThatMatchesLiesWithin(t *testing.T) {
	d := &dice{state: 91}
	within, bounded := 0, 0
	for range 20000 {
		w, x := d.search(3), d.record()
		for _, path := range recordPaths() {
			from, to := w.bounds(path)
			wantBounds(t, w, path, from, to)
			if to == "" {
				continue
			}
			bounded++
			if !w.matches(x) {
				continue
			}
			within++
			names, _ := oraclePath(path)
			if at, ok := x.at(names); !ok || at.key() < from || at.key() >= to {
				t.Fatalf("%s matches %s, which does not lie within %q %q", w.text(), x.tidy(), from, to)
			}
		}
	}
	if within < 500 || bounded < 5000 {
		t.Errorf("%d of %d match: that tells little", within, bounded)
	}
}

func TestPromise9PlanFor(t *testing.T) {
	a, b, c := eq("/a", `1`), lt("/b", `"x"`), gt("/c", `0`)
	none := shelfOf()
	one := shelfOf("/a")
	three := shelfOf("/a", "!/b", "/c")
	for _, s := range []shelf{none, one, three} {
		for _, docs := range [][]string{nil, {`{"_id":1,"a":1,"b":"w","c":5}`, `{"_id":2,"a":2}`}} {
			s := s.holding(docs...)
			for _, w := range []wish{has("/a"), in("/a", `[1]`), eq("/a", `null`), eq("/d", `1`), eq("", `1`), and(), or(), or(a), not(a), or(a, b, c), and(or(a), not(b)), not(not(c))} {
				wantPlan(t, s, w, -1)
			}
		}
	}
	for _, w := range []wish{a, b, c, and(a, b, c)} {
		wantPlan(t, none, w, -1)
	}
	wantPlan(t, one, a, 0)
	wantPlan(t, one, b, -1)
	wantPlan(t, one, and(c, b, a), 0)
	wantPlan(t, three, a, 0)
	wantPlan(t, three, b, 1)
	wantPlan(t, three, c, 2)
	// The first of the indexes counts, not the first of the terms, nor how few there are.
	wantPlan(t, three, and(c, b, a), 0)
	wantPlan(t, three, and(c, b), 1)
	wantPlan(t, three, and(c, or(b), not(a)), 2)
	wantPlan(t, three, and(has("/a"), in("/b", `[1]`), and(c)), 2)
	wantPlan(t, shelfOf("/c", "/b", "/a"), and(a, b, c), 0)
	wantPlan(t, shelfOf("/d", "/_id", "/b"), and(a, b, c), 2)
	wantPlan(t, shelfOf("/d", "/_id", "/b"), and(a, b, eq("/_id", `7`)), 1)
	// What cannot match has a plan, too.
	wantPlan(t, three, and(eq("/b", `1`), eq("/b", `2`)), 1)
	wantPlan(t, three.holding(manyDocs(40)...), and(gt("/a", `1`), gt("/a", `2`), lt("/c", `8`)), 0)
}

func TestPromise9PlanForWrittenOut(t *testing.T) {
	c := shelfOf("/b", "/a").holding(`{"_id":1,"a":1}`).collection()
	f := and(gt("/a", `1`), lt("/a", `3`), has("/b")).filter()
	want := impl.Bound{Index: 1, From: "\x04\x3b\x9a\xca\x01", To: "\x04\x3b\x9a\xca\x03"}
	if got, ok := impl.PlanFor(c, f); !ok || got != want {
		t.Errorf("PlanFor is %+v %v", got, ok)
	}
}

func nineDocs() []string {
	return []string{`{"_id":4,"a":5,"b":1}`, `{"_id":3,"a":5,"b":2}`, `{"_id":"2","a":5}`, `{"_id":1,"a":-7}`, `{"_id":2,"a":"5"}`, `{"_id":5,"a":"","b":4}`, `{"_id":6,"a":6}`, `{"_id":7,"a":[5]}`, `{"_id":8}`}
}

func TestPromise9WhatIsFoundByAPlan(t *testing.T) {
	s := shelfOf("/a", "/b").holding(nineDocs()...)
	wantPlanned(t, s, eq("/a", `5`), 3, `3`, `4`, `"2"`)
	wantPlanned(t, s, eq("/a", `4`), 0)
	wantPlanned(t, s, eq("/a", `"5"`), 1, `2`)
	wantPlanned(t, s, lt("/a", `5`), 1, `1`)
	wantPlanned(t, s, lt("/a", `6`), 4, `1`, `3`, `4`, `"2"`)
	wantPlanned(t, s, lt("/a", `1000000000`), 5, `1`, `3`, `4`, `6`, `"2"`)
	wantPlanned(t, s, lt("/a", `""`), 0)
	wantPlanned(t, s, lt("/a", `"~"`), 2, `2`, `5`)
	// What is just the same lies within, is looked at, and does not match.
	wantPlanned(t, s, gt("/a", `5`), 4, `6`)
	wantPlanned(t, s, gt("/a", `6`), 1)
	wantPlanned(t, s, gt("/a", `-1000000000`), 5, `1`, `3`, `4`, `6`, `"2"`)
	wantPlanned(t, s, gt("/a", `""`), 2, `2`)
	wantPlanned(t, s, and(gt("/a", `-7`), lt("/a", `6`)), 4, `3`, `4`, `"2"`)
	wantPlanned(t, s, and(gt("/a", `-6`), lt("/a", `5`)), 0)
	wantPlanned(t, s, and(lt("/a", `-7`), gt("/a", `5`)), 0)
	wantPlanned(t, s, and(eq("/a", `5`), eq("/a", `"5"`)), 0)
	// The other terms are asked, too.
	wantPlanned(t, s, and(eq("/a", `5`), has("/b")), 3, `3`, `4`)
	wantPlanned(t, s, and(eq("/a", `5`), not(has("/b"))), 3, `"2"`)
	wantPlanned(t, s, and(eq("/a", `5`), or()), 3)
	wantPlanned(t, s, and(eq("/a", `5`), eq("/b", `2`)), 3, `3`)
	// The second index alone has bounds.
	wantPlanned(t, s, gt("/b", `1`), 3, `3`, `5`)
	wantPlanned(t, s, and(has("/a"), lt("/b", `4`)), 2, `3`, `4`)
}

func TestPromise9WhatIsFoundWithoutAPlan(t *testing.T) {
	s := shelfOf("/a", "/b").holding(nineDocs()...)
	wantPlanned(t, s, and(), 9, `1`, `2`, `3`, `4`, `5`, `6`, `7`, `8`, `"2"`)
	wantPlanned(t, s, or(), 9)
	wantPlanned(t, s, has("/b"), 9, `3`, `4`, `5`)
	wantPlanned(t, s, in("/a", `[5,6]`), 9, `3`, `4`, `6`, `"2"`)
	wantPlanned(t, s, eq("/a", `[5]`), 9, `7`)
	wantPlanned(t, s, gt("/a", `[4]`), 9, `7`)
	wantPlanned(t, s, eq("/a/0", `5`), 9, `7`)
	wantPlanned(t, s, lt("/_id", `3`), 9, `1`, `2`)
	wantPlanned(t, s, not(eq("/a", `5`)), 9, `1`, `2`, `5`, `6`, `7`, `8`)
	wantPlanned(t, s, not(not(eq("/a", `5`))), 9, `3`, `4`, `"2"`)
	wantPlanned(t, s, or(eq("/a", `5`), eq("/b", `4`)), 9, `3`, `4`, `5`, `"2"`)
	wantPlanned(t, s, or(eq("/a", `5`)), 9, `3`, `4`, `"2"`)
	bare := shelfOf().holding(nineDocs()...)
	wantPlanned(t, bare, eq("/a", `5`), 9, `3`, `4`, `"2"`)
	wantPlanned(t, bare, and(), 9, `1`, `2`, `3`, `4`, `5`, `6`, `7`, `8`, `"2"`)
	for _, none := range []shelf{shelfOf(), shelfOf("/a"), shelfOf("/b", "!/a")} {
		wantPlanned(t, none, and(), 0)
		wantPlanned(t, none, eq("/a", `5`), 0)
		wantPlanned(t, none, has("/a"), 0)
	}
}

// By keys and by ids documents stand in another order: they are told by their ids.
func TestPromise9FoundByTheirIds(t *testing.T) {
	s := shelfOf("/a").holding(`{"_id":1,"a":9}`, `{"_id":2,"a":8}`, `{"_id":3,"a":7}`, `{"_id":"a","a":6}`, `{"_id":"b","a":5}`)
	wantPlanned(t, s, gt("/a", `0`), 5, `1`, `2`, `3`, `"a"`, `"b"`)
	wantPlanned(t, s, and(gt("/a", `5`), lt("/a", `9`)), 4, `2`, `3`, `"a"`)
	wantFirstBy(t, s, gt("/a", `0`), 0, 40, `"b"`, `"a"`, `3`, `2`, `1`)
}

func TestPromise9FortyDocuments(t *testing.T) {
	s := shelfOf("/a", "!/b").holding(manyDocs(40)...)
	for _, w := range []wish{and(), has("/a"), gt("/a", `-1000000000`), and(lt("/a", `1000000000`), gt("/b", `3`))} {
		wantPlanned(t, s, w, s.looked(w), idsOf(s.matching(w))...)
		for _, limit := range []int{0, 1, 39, 40} {
			wantFirstBy(t, s, w, 0, limit, idsOf(s.firstBy(w, 0, limit))...)
		}
	}
}

func idsOf(docs []tree) []string {
	var ids []string
	for _, x := range docs {
		ids = append(ids, x.id().tidy())
	}
	return ids
}

// A key has two bytes more than each of its texts: of texts of 36 bytes it is just MaxKey long.
func TestPromise9KeysThatAreTooLong(t *testing.T) {
	others := []string{`{"_id":1,"a":"x"}`, `{"_id":2,"a":7}`, `{"_id":3}`, `{"_id":4,"a":7,"b":1}`}
	for ofId := 13; ofId <= 23; ofId++ {
		id := repeated("i", ofId)
		just, beyond := repeated("x", 36-ofId), repeated("x", 37-ofId)
		s := shelfOf("/a", "/b").holding(others...).holding(`{"_id":` + id + `,"a":` + just + `}`)
		wantPlanned(t, s, eq("/a", just), 1, id)
		wantPlanned(t, s, eq("/a", `7`), 2, `2`, `4`)
		wantPlanned(t, s, gt("/a", `"x"`), 2, id)
		wantPlanned(t, s, lt("/a", `"y"`), 2, `1`, id)
		wantFirstBy(t, s, has("/a"), 0, 40, `2`, `4`, `1`, id)
		s = shelfOf("/a", "/b").holding(others...).holding(`{"_id":` + id + `,"a":` + beyond + `}`)
		wantPlanned(t, s, eq("/a", beyond), 5, id)
		wantPlanned(t, s, eq("/a", just), 5)
		wantPlanned(t, s, gt("/a", `"x"`), 5, id)
		wantPlanned(t, s, lt("/a", `"y"`), 5, `1`, id)
		// There is none, also where it is not the one that is found, and another index is not taken in its place.
		wantPlanned(t, s, eq("/a", `7`), 5, `2`, `4`)
		wantPlanned(t, s, and(eq("/a", `7`), eq("/b", `1`)), 5, `4`)
		wantPlanned(t, s, eq("/b", `1`), 1, `4`)
		wantFirstBy(t, s, has("/a"), 0, 40, `2`, `4`, `1`)
		// PlanFor itself asks for bounds alone.
		wantPlan(t, s, and(eq("/a", `7`), eq("/b", `1`)), 0)
	}
}

func TestPromise9KeysThatAreTooLongElsewhere(t *testing.T) {
	id, long := repeated("i", 24), repeated("x", 24)
	// Such a text in another place, or in a list, has no key that is too long in this index.
	for _, text := range []string{`{"_id":` + id + `}`, `{"_id":` + id + `,"b":` + long + `}`, `{"_id":` + id + `,"a":[` + long + `]}`, `{"_id":` + id + `,"a":{"a":` + long + `}}`} {
		s := shelfOf("/a", "/b").holding(`{"_id":1,"a":1}`, `{"_id":2,"a":2,"b":2}`, text)
		wantPlanned(t, s, eq("/a", `2`), 1, `2`)
		wantPlanned(t, s, and(eq("/b", `2`), gt("/a", `1`)), 2, `2`)
	}
	s := shelfOf("/a", "/b").holding(`{"_id":1,"a":1}`, `{"_id":2,"a":2,"b":2}`, `{"_id":`+id+`,"b":`+long+`}`)
	wantPlanned(t, s, eq("/b", `2`), 3, `2`)
	wantPlanned(t, s, eq("/b", long), 3, id)
	// An id stands twice in a key of its own path: 18 bytes are just enough.
	for many, looked := range map[int]int{17: 1, 18: 1, 19: 3, 24: 3} {
		s := shelfOf("/_id").holding(`{"_id":1}`, `{"_id":"i"}`, `{"_id":`+repeated("i", many)+`}`)
		wantPlanned(t, s, eq("/_id", repeated("i", many)), looked, repeated("i", many))
		wantPlanned(t, s, eq("/_id", `1`), looked, `1`)
	}
	// Numbers have short keys, whatever the id is.
	s = shelfOf("/a").holding(`{"_id":`+id+`,"a":1000000000}`, `{"_id":1,"a":-1000000000}`)
	wantPlanned(t, s, gt("/a", `0`), 1, id)
}

func TestPromise9FirstBy(t *testing.T) {
	s := shelfOf("/a", "/b", "/none").holding(nineDocs()...)
	inOrder := []string{`1`, `3`, `4`, `"2"`, `6`, `5`, `2`}
	for limit := range 41 {
		wantFirstBy(t, s, and(), 0, limit, inOrder[:min(limit, 7)]...)
		wantFirstBy(t, s, has("/b"), 0, limit, []string{`3`, `4`, `5`}[:min(limit, 3)]...)
		wantFirstBy(t, s, has("/a"), 1, limit, []string{`4`, `3`, `5`}[:min(limit, 3)]...)
		wantFirstBy(t, s, or(), 0, limit)
		wantFirstBy(t, s, and(), 2, limit)
	}
	// Those that match stand anywhere among the others.
	wantFirstBy(t, s, eq("/a", `""`), 0, 1, `5`)
	wantFirstBy(t, s, not(eq("/a", `5`)), 0, 3, `1`, `6`, `5`)
	wantFirstBy(t, s, gt("/_id", `3`), 0, 2, `4`, `6`)
	// What matches and has no key there is not told.
	wantFirstBy(t, s, eq("/a", `[5]`), 0, 40)
	wantFirstBy(t, s, not(has("/a")), 0, 40)
	wantFirstBy(t, s, eq("/a", `6`), 1, 40)
	wantFirstBy(t, s, gt("/_id", `6`), 0, 40)
	wantFirstBy(t, s, eq("/b", `4`), 0, 40, `5`)
	wantFirstBy(t, shelfOf("/a"), and(), 0, 40)
	wantFirstBy(t, shelfOf("/a"), and(), 0, 0)
}

func TestPromise9FirstByIsRefused(t *testing.T) {
	c, f := shelfOf("/a", "/b").holding(nineDocs()...).collection(), and().filter()
	for _, limit := range []int{least, -1000, -2, -1, 41, 42, 1000, greatest} {
		for index := range 2 {
			if got, ok := impl.FirstBy(c, f, index, limit); ok || len(got) != 0 {
				t.Errorf("FirstBy of limit %d is %v %v", limit, got, ok)
			}
		}
	}
	for _, index := range []int{least, -2, -1, 2, 3, 1000, greatest} {
		for _, limit := range []int{0, 1, 40} {
			if got, ok := impl.FirstBy(c, f, index, limit); ok || len(got) != 0 {
				t.Errorf("FirstBy of index %d is %v %v", index, got, ok)
			}
		}
	}
	for _, index := range []int{-1, 0, 1} {
		if got, ok := impl.FirstBy(shelfOf().collection(), f, index, 1); ok || len(got) != 0 {
			t.Errorf("FirstBy of no index is %v %v", got, ok)
		}
	}
}

// Collections and filters that the dice tell, each answer held against trees.
func TestPromise9AgainstTrees(t *testing.T) {
	d := &dice{state: 92}
	fewer, tooLong, found := 0, 0, 0
	for range 700 {
		s := d.shelf(25)
		c := s.collection()
		for range 8 {
			w := d.search(2)
			if len(s.paths) > 0 && d.below(2) == 0 {
				w = and(or(w, has("/b")), wish{kind: 1 + d.below(3), path: s.paths[d.below(len(s.paths))], value: d.keyTree()})
			}
			wantAllOf(t, d, s, c, w)
			if b, ok := s.plan(w); ok && s.lacksKeys(b.Index) {
				tooLong++
			} else if ok && s.looked(w) < len(s.docs) {
				fewer++
				found += len(s.matching(w))
			}
		}
	}
	if fewer < 1000 || tooLong < 200 || found < 500 {
		t.Errorf("%d plans, %d without one for a key that is too long, %d found: that tells little", fewer, tooLong, found)
	}
}

func wantAllOf(t *testing.T, d *dice, s shelf, c impl.Collection, w wish) {
	t.Helper()
	f, want := w.filter(), tidyOf(s.matching(w))
	all, ok := impl.FindAll(c, f)
	if !ok || !slices.Equal(textsOf(t, all), want) {
		t.Errorf("FindAll by %s is %v %v, not %v", w.text(), textsOf(t, all), ok, want)
	}
	planned, looked, ok := impl.FindPlanned(c, f)
	if !ok || !slices.EqualFunc(planned, all, sameValue) || looked != s.looked(w) || looked > len(c.Docs) || looked < len(all) {
		t.Errorf("FindPlanned by %s is %v, looked at %d, %v, not %v, looked at %d", w.text(), textsOf(t, planned), looked, ok, want, s.looked(w))
	}
	if many, ok := impl.CountIn(c, f); !ok || many != len(all) {
		t.Errorf("CountIn by %s is %d %v, not %d", w.text(), many, ok, len(all))
	}
	wantBound, wantOk := s.plan(w)
	if b, ok := impl.PlanFor(c, f); ok != wantOk || b != wantBound {
		t.Errorf("PlanFor %s is %+v %v, not %+v %v", w.text(), b, ok, wantBound, wantOk)
	}
	for index := range s.paths {
		limit := d.below(41)
		wantFirst := tidyOf(s.firstBy(w, index, limit))
		if got, ok := impl.FirstBy(c, f, index, limit); !ok || !slices.Equal(textsOf(t, got), wantFirst) {
			t.Errorf("FirstBy index %d, %d of %s, is %v %v, not %v", index, limit, w.text(), textsOf(t, got), ok, wantFirst)
		}
	}
}
