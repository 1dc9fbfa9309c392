package tests

import (
	"fmt"
	"slices"
	"strings"
	"testing"

	"loop.example/g00274/impl"
)

// wantNoSearch asks all functions that take a collection and a filter for their zero answers.
func wantNoSearch(t *testing.T, what string, c impl.Collection, f impl.Filter) {
	t.Helper()
	if b, ok := impl.PlanFor(c, f); ok || b != (impl.Bound{}) {
		t.Errorf("%s: PlanFor is %+v %v", what, b, ok)
	}
	if docs, ok := impl.FindAll(c, f); ok || len(docs) != 0 {
		t.Errorf("%s: FindAll is %v %v", what, docs, ok)
	}
	if docs, looked, ok := impl.FindPlanned(c, f); ok || looked != 0 || len(docs) != 0 {
		t.Errorf("%s: FindPlanned is %v %d %v", what, docs, looked, ok)
	}
	if many, ok := impl.CountIn(c, f); ok || many != 0 {
		t.Errorf("%s: CountIn is %d %v", what, many, ok)
	}
	for _, index := range []int{least, -1, 0, 1, 2, 3, len(c.Indexes) - 1, len(c.Indexes), greatest} {
		for _, limit := range []int{least, -1, 0, 1, 40, 41, greatest} {
			if docs, ok := impl.FirstBy(c, f, index, limit); ok || len(docs) != 0 {
				t.Errorf("%s: FirstBy of %d %d is %v %v", what, index, limit, docs, ok)
			}
		}
	}
}

// threeSearches have a plan in threeDocs at the first index, at another one, and none.
func threeSearches() []wish {
	return []wish{and(eq("/a", `7`), has("/b")), lt("/b", `"z"`), and()}
}

func TestPromise19SearchesInCollectionsThatAreNotGood(t *testing.T) {
	for _, w := range threeSearches() {
		for rule, c := range brokenCollections() {
			wantNoSearch(t, rule, c, w.filter())
		}
		for what, v := range badValues() {
			wantNoSearch(t, what, impl.Collection{Docs: []impl.Value{v}}, w.filter())
			wantNoSearch(t, what, collectionWith(func(c *impl.Collection) { c.Docs[2] = v }), w.filter())
		}
		for what, limbs := range brokenTreaps() {
			for index := range 3 {
				made := threeDocs().collection()
				made.Indexes[index].Keys.Limbs = limbs
				wantNoSearch(t, what, made, w.filter())
			}
		}
	}
}

func TestPromise19SearchesByFiltersThatAreNotGood(t *testing.T) {
	all := brokenFilters()
	for what, v := range badValues() {
		for _, kind := range []int{impl.TermEq, impl.TermLt, impl.TermGt, impl.TermIn} {
			all[fmt.Sprint(what, " in kind ", kind)] = filterOf(impl.Term{Kind: kind, Path: "/a", Value: v})
		}
	}
	all["a million terms"] = impl.Filter{Terms: make([]impl.Term, 1000000)}
	all["a million kids"] = filterOf(hasTerm(), aboveTerm(impl.TermAnd, make([]int, 1000000)...))
	collections := []impl.Collection{{}, threeDocs().collection(), shelfOf("/a").collection(), docsAs(`{"_id":2}`, `{"_id":1}`)}
	for what, f := range all {
		for _, c := range collections {
			wantNoSearch(t, what, c, f)
		}
		for _, path := range []string{"", "/a", "a"} {
			if from, to, ok := impl.BoundsOf(f, path); ok || from != "" || to != "" {
				t.Errorf("%s: BoundsOf at %q is %q %q %v", what, path, from, to, ok)
			}
		}
	}
}

func TestPromise19FiltersThatAreSpoiltForASearch(t *testing.T) {
	d := &dice{state: 93}
	s := shelfOf("/a", "/b").holding(`{"_id":1,"a":1,"b":""}`, `{"_id":2,"a":0}`, `{"_id":"3","a":"x","b":0}`, `{"_id":4,"a":[1]}`)
	good, bad := 0, 0
	for range 2500 {
		f := d.spoilFilter(d.filter(1 + d.below(8)))
		if oracleGoodFilter(f) {
			good++
			wantAllOf(t, d, s, s.collection(), wishOf(f))
			continue
		}
		bad++
		wantNoSearch(t, "spoilt", s.collection(), f)
		if from, to, ok := impl.BoundsOf(f, "/a"); ok || from != "" || to != "" {
			t.Errorf("BoundsOf is %q %q %v", from, to, ok)
		}
	}
	if good < 500 || bad < 500 {
		t.Errorf("%d good and %d bad: that tells little", good, bad)
	}
}

func TestPromise19CollectionsThatAreDisturbedForASearch(t *testing.T) {
	d := &dice{state: 94}
	good, bad := 0, 0
	for range 2000 {
		s := d.shelf(6)
		c := s.collection()
		d.disturbCollection(&c)
		w := d.search(2)
		if oracleGoodCollection(c) {
			good++
			wantAllOf(t, d, shelfIn(c), c, w)
			continue
		}
		bad++
		wantNoSearch(t, "disturbed", c, w.filter())
	}
	if good < 300 || bad < 300 {
		t.Errorf("%d good and %d bad: that tells little", good, bad)
	}
}

// shelfIn takes a good collection.
func shelfIn(c impl.Collection) shelf {
	var s shelf
	for _, v := range c.Docs {
		s.docs = append(s.docs, treeOf(v.Nodes, 0))
	}
	for _, x := range c.Indexes {
		s.paths = append(s.paths, x.Path)
		s.unique = append(s.unique, x.Unique)
	}
	return s
}

func TestPromise19AnyTextAsAPathOfBounds(t *testing.T) {
	f := and(gt("", `1`), lt("/a", `1`), eq("/", `1`)).filter()
	for c := range 256 {
		one := string([]byte{byte(c)})
		for _, path := range []string{one, "/" + one, "/a" + one, one + "/a", "/a/" + one + "a"} {
			names, good := oraclePath(path)
			from, to, ok := impl.BoundsOf(f, path)
			told := good && (len(names) == 0 || path == "/a" || path == "/")
			if ok != good || (to != "") != told || (from != "") != told {
				t.Errorf("BoundsOf at %q is %q %q %v", path, from, to, ok)
			}
		}
	}
	if from, to, ok := impl.BoundsOf(f, strings.Repeat("/a", 500000)); ok || from != "" || to != "" {
		t.Errorf("BoundsOf at a million bytes is %q %q %v", from, to, ok)
	}
}

func TestPromise19FirstByOfAnyNumbers(t *testing.T) {
	s := threeDocs()
	numbers := []int{least, least + 1, -1000, -41, -3, -2, -1, 0, 1, 2, 3, 4, 39, 40, 41, 60, 1000, greatest - 1, greatest}
	for _, w := range threeSearches() {
		for _, index := range numbers {
			for _, limit := range numbers {
				var want []string
				good := index >= 0 && index < 3 && limit >= 0 && limit <= 40
				if good {
					want = tidyOf(s.firstBy(w, index, limit))
				}
				if got, ok := impl.FirstBy(s.collection(), w.filter(), index, limit); ok != good || !slices.Equal(textsOf(t, got), want) {
					t.Errorf("FirstBy of %d %d is %v %v, not %v %v", index, limit, got, ok, want, good)
				}
			}
		}
	}
}

// searchCalls are all calls of the chapter; they tell the answer in two forms, of which the first one is often empty.
func searchCalls() map[string]func(impl.Collection, impl.Filter) ([]impl.Value, string) {
	return map[string]func(impl.Collection, impl.Filter) ([]impl.Value, string){
		"BoundsOf": func(_ impl.Collection, f impl.Filter) ([]impl.Value, string) {
			from, to, ok := impl.BoundsOf(f, "/a")
			return nil, fmt.Sprintf("%q %q %v", from, to, ok)
		},
		"PlanFor": func(c impl.Collection, f impl.Filter) ([]impl.Value, string) {
			b, ok := impl.PlanFor(c, f)
			return nil, fmt.Sprintf("%+v %v", b, ok)
		},
		"FindAll": func(c impl.Collection, f impl.Filter) ([]impl.Value, string) {
			docs, ok := impl.FindAll(c, f)
			return docs, fmt.Sprint(ok)
		},
		"FindPlanned": func(c impl.Collection, f impl.Filter) ([]impl.Value, string) {
			docs, looked, ok := impl.FindPlanned(c, f)
			return docs, fmt.Sprint(looked, ok)
		},
		"CountIn": func(c impl.Collection, f impl.Filter) ([]impl.Value, string) {
			many, ok := impl.CountIn(c, f)
			return nil, fmt.Sprint(many, ok)
		},
		"FirstBy": func(c impl.Collection, f impl.Filter) ([]impl.Value, string) {
			docs, ok := impl.FirstBy(c, f, 0, 3)
			return docs, fmt.Sprint(ok)
		},
	}
}

func filterPieces(f impl.Filter) []piece {
	all := []piece{pieceOf(f.Terms, impl.Term{Kind: 77, Path: "spoilt"}, func(x impl.Term) any {
		return []any{x.Kind, x.Path, len(x.Value.Nodes), len(x.Kids)}
	})}
	for _, x := range f.Terms[:cap(f.Terms)] {
		all = append(all, nodesPiece(x.Value.Nodes), pieceOf(x.Kids, 77, func(n int) any { return n }))
	}
	return all
}

// searched are good collections, and some that are not, each with something to be found.
func searched() map[string]impl.Collection {
	long := `{"_id":` + repeated("i", 24) + `,"a":` + repeated("x", 24) + `}`
	return map[string]impl.Collection{
		"none":                   {},
		"an index of none":       shelfOf("/a").collection(),
		"three":                  threeDocs().collection(),
		"three without an index": shelfOf().holding(`{"_id":1,"a":7,"b":[1,{"c":2}]}`, `{"_id":2,"a":8}`, `{"_id":3,"a":9}`).collection(),
		"a key that is too long": shelfOf("/a").holding(`{"_id":1,"a":7,"b":1}`, `{"_id":2,"a":7}`, long).collection(),
		"many":                   shelfOf("/a", "!/b").holding(manyDocs(15)...).collection(),
		"ids that fall":          docsAs(`{"_id":2,"a":7}`, `{"_id":1,"a":7}`),
		"a key that lacks":       keysAs(0, threeDocs().pairs(0)[1:]),
	}
}

func TestPromise19SearchesLeaveArgumentsAsTheyWere(t *testing.T) {
	filters := shareFilters()
	for _, w := range threeSearches() {
		filters = append(filters, w.filter())
	}
	for what, c := range searched() {
		for _, f := range filters {
			arg, by := collectionBehind(c), laidOut(f)
			pieces := slices.Concat(collectionPieces(arg), filterPieces(by))
			before := tellPieces(pieces)
			for name, call := range searchCalls() {
				docs, told := call(arg, by)
				wantDocs, wantTold := call(c, f)
				if told != wantTold || !slices.EqualFunc(docs, wantDocs, sameValue) {
					t.Errorf("%s: %s reads what lies behind a length: %s, not %s", what, name, told, wantTold)
				}
				wantZeroBehind(t, what+": "+name, docs, nil)
				for _, p := range valuesPieces(docs) {
					p.spoil()
				}
			}
			if !slices.Equal(tellPieces(pieces), before) {
				t.Errorf("%s: an argument is written into, or changed with an answer: %v", what, f)
			}
		}
	}
}

func TestPromise19SearchAnswersShareNothing(t *testing.T) {
	for what, c := range searched() {
		for _, w := range append(threeSearches(), has("/a"), gt("/a", `-1`), not(has("/d"))) {
			for name, call := range searchCalls() {
				arg, by := collectionBehind(c), w.filter()
				docs, _ := call(arg, by)
				again, _ := call(arg, by)
				wantApart(t, what+": "+name+" by "+w.text(), slices.Concat(valuesPieces(docs), valuesPieces(again), collectionPieces(arg), filterPieces(by)))
			}
		}
	}
}

// An answer stays as it was, whatever is done to the arguments later.
func TestPromise19SearchAnswersOfLaterChangedArguments(t *testing.T) {
	for _, w := range threeSearches() {
		for name, call := range searchCalls() {
			arg, by := threeDocs().collection(), w.filter()
			docs, told := call(arg, by)
			before := textsOf(t, docs)
			for _, p := range slices.Concat(collectionPieces(arg), filterPieces(by)) {
				p.spoil()
			}
			wantDocs, wantTold := call(threeDocs().collection(), w.filter())
			if !slices.Equal(textsOf(t, docs), before) || !slices.Equal(textsOf(t, wantDocs), before) || told != wantTold {
				t.Errorf("%s by %s changed with an argument: %v, not %v", name, w.text(), docs, before)
			}
		}
	}
}
