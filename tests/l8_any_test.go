package tests

import (
	"fmt"
	"slices"
	"strings"
	"testing"

	"loop.example/g00274/impl"
)

// wantNoCollection asks each function of the chapter that takes a collection for its answer where that is not good.
func wantNoCollection(t *testing.T, what string, bad impl.Collection) {
	t.Helper()
	if impl.GoodCollection(bad) {
		t.Errorf("%s: GoodCollection", what)
	}
	values := []impl.Value{impl.NumberOf(1), treeIn(`"2"`).value(), treeIn(`{"_id":1,"a":7}`).value(), treeIn(`{"_id":"new"}`).value(), treeIn(`[]`).value(), {}}
	if len(bad.Docs) > 0 {
		values = append(values, bad.Docs[0])
	}
	for _, v := range values {
		for name, call := range changeCalls() {
			if got, code := call(bad, v); code != impl.CollBad || len(got.Docs) != 0 || len(got.Indexes) != 0 {
				t.Errorf("%s: %s is %v %d", what, name, got, code)
			}
		}
		if got, ok := impl.FindDoc(bad, v); ok || len(got.Nodes) != 0 {
			t.Errorf("%s: FindDoc is %v %v", what, got, ok)
		}
	}
	for _, index := range []int{least, -1, 0, 1, 2, 3, len(bad.Indexes) - 1, len(bad.Indexes), greatest} {
		if keys, ok := impl.IndexKeys(bad, index); ok || len(keys) != 0 {
			t.Errorf("%s: IndexKeys is %q %v", what, keys, ok)
		}
		for _, to := range values {
			if docs, ok := impl.ByIndex(bad, index, impl.NumberOf(-1000000000), to); ok || len(docs) != 0 {
				t.Errorf("%s: ByIndex is %v %v", what, docs, ok)
			}
		}
	}
}

// changeCalls tell all that take a collection and a value, and answer a collection and a code.
func changeCalls() map[string]func(impl.Collection, impl.Value) (impl.Collection, int) {
	return map[string]func(impl.Collection, impl.Value) (impl.Collection, int){
		"InsertDoc":  impl.InsertDoc,
		"ReplaceDoc": impl.ReplaceDoc,
		"DeleteDoc":  impl.DeleteDoc,
	}
}

func TestPromise19CollectionsWithTreapsOfAnyNumbers(t *testing.T) {
	numbers := []int{least, -1000, -2, -1, 0, 1, 2, 3, 40, 60, 1000, greatest}
	for index := range 2 {
		base := threeDocs().collection().Indexes[index].Keys
		for k := range base.Limbs {
			for _, left := range numbers {
				for _, right := range numbers {
					made := threeDocs().collection()
					made.Indexes[index].Keys.Limbs[k].Left = left
					made.Indexes[index].Keys.Limbs[k].Right = right
					if !sameTreap(made.Indexes[index].Keys, base) {
						wantNoCollection(t, "any numbers", made)
					}
				}
			}
		}
	}
}

func TestPromise19CollectionsWithBrokenTreaps(t *testing.T) {
	for what, limbs := range brokenTreaps() {
		for index := range 3 {
			made := threeDocs().collection()
			made.Indexes[index].Keys.Limbs = limbs
			wantNoCollection(t, what, made)
		}
		wantNoCollection(t, what, impl.Collection{Indexes: []impl.Index{{Path: "/a", Keys: impl.Treap{Limbs: limbs}}}})
	}
}

func TestPromise19CollectionsOfValuesThatAreNotGood(t *testing.T) {
	s := threeDocs()
	for what, v := range badValues() {
		if got, ok := impl.IdOf(v); ok || len(got.Nodes) != 0 {
			t.Errorf("%s: IdOf is %v %v", what, got, ok)
		}
		for name, call := range changeCalls() {
			got, code := call(s.collection(), v)
			if code != impl.CollBad {
				t.Errorf("%s: %s tells %d", what, name, code)
			}
			wantShelf(t, what+": "+name, got, s)
		}
		if got, ok := impl.FindDoc(s.collection(), v); ok || len(got.Nodes) != 0 {
			t.Errorf("%s: FindDoc is %v %v", what, got, ok)
		}
		for _, two := range [][2]impl.Value{{v, impl.NumberOf(9)}, {impl.NumberOf(0), v}, {v, v}} {
			if got, ok := impl.ByIndex(s.collection(), 0, two[0], two[1]); ok || len(got) != 0 {
				t.Errorf("%s: ByIndex is %v %v", what, got, ok)
			}
		}
		for k := range s.docs {
			wantNoCollection(t, what, collectionWith(func(c *impl.Collection) { c.Docs[k] = v }))
		}
		wantNoCollection(t, what, impl.Collection{Docs: []impl.Value{v}})
	}
}

func TestPromise19DocumentsOfAnyKindAndUp(t *testing.T) {
	base := mustRead(t, `{"_id":5,"a":{"b":null},"c":[2]}`)
	s := shelfOf("/a/b", "!/c/0").holding(`{"_id":1}`, `{"_id":9,"c":[3]}`)
	for k := range base.Nodes {
		for _, n := range []int{least, -1000, -2, -1, 0, 1, 2, 3, 4, 5, 6, 7, 8, 9, 1000, greatest} {
			for _, v := range []impl.Value{changed(base, k, func(x *impl.Node) { x.Kind = n }),
				changed(base, k, func(x *impl.Node) { x.Up = n }),
				changed(base, k, func(x *impl.Node) { x.Num = n })} {
				want, code := s, impl.CollBad
				if oracleGood(v) {
					want, code = s.insert(treeOf(v.Nodes, 0))
				}
				got, gotCode := impl.InsertDoc(s.collection(), v)
				if gotCode != code {
					t.Errorf("InsertDoc(%v) tells %d, not %d", v, gotCode, code)
				}
				wantShelf(t, "InsertDoc", got, want)
				if id, ok := impl.IdOf(v); ok != (oracleGood(v) && treeOf(v.Nodes, 0).isDocument()) || !ok && len(id.Nodes) != 0 {
					t.Errorf("IdOf(%v) is %v %v", v, id, ok)
				}
			}
		}
	}
}

func TestPromise19AnyTextAsAPathOfAnIndex(t *testing.T) {
	for c := range 256 {
		for _, path := range []string{string([]byte{byte(c)}), "/" + string([]byte{byte(c)}), "/a/" + string([]byte{byte(c), 'a'})} {
			_, want := oraclePath(path)
			got, ok := impl.NewCollection([]string{path}, []bool{true})
			if ok != want || !ok && len(got.Indexes) != 0 || impl.GoodCollection(impl.Collection{Indexes: []impl.Index{{Path: path}}}) != want {
				t.Errorf("NewCollection(%q) is %v %v", path, got, ok)
			}
		}
	}
	got, ok := impl.NewCollection([]string{strings.Repeat("/a", 500000)}, []bool{true})
	wantNoneMade(t, "a million bytes", got, ok)
}

// piece is one list of an argument or an answer: what is in it, also behind its length, and how it is written over.
type piece struct {
	tell  func() string
	spoil func()
}

func pieceOf[E any](l []E, spoilt E, bare func(E) any) piece {
	all := l[:cap(l)]
	return piece{
		tell: func() string {
			text := ""
			for _, x := range all {
				text += fmt.Sprintf("%v;", bare(x))
			}
			return text
		},
		spoil: func() {
			for k := range all {
				all[k] = spoilt
			}
		},
	}
}

func nodesPiece(l []impl.Node) piece {
	return pieceOf(l, impl.Node{Kind: 77, Text: "spoilt"}, func(n impl.Node) any { return n })
}

func textsPiece(l []string) piece {
	return pieceOf(l, "spoilt", func(s string) any { return s })
}

func limbsPiece(l []impl.Limb) piece {
	return pieceOf(l, impl.Limb{Key: "spoilt", Left: 77}, func(l impl.Limb) any { return l })
}

// valuesPieces are the list of values, without what is in them, and the nodes of each.
func valuesPieces(l []impl.Value) []piece {
	all := []piece{pieceOf(l, impl.Value{Nodes: make([]impl.Node, 99)}, func(v impl.Value) any { return len(v.Nodes) })}
	for _, v := range l[:cap(l)] {
		all = append(all, nodesPiece(v.Nodes))
	}
	return all
}

func collectionPieces(c impl.Collection) []piece {
	all := append(valuesPieces(c.Docs), pieceOf(c.Indexes, impl.Index{Path: "spoilt"}, func(x impl.Index) any {
		return []any{x.Path, x.Unique, len(x.Keys.Limbs)}
	}))
	for _, x := range c.Indexes[:cap(c.Indexes)] {
		all = append(all, limbsPiece(x.Keys.Limbs))
	}
	return all
}

func tellPieces(l []piece) []string {
	var texts []string
	for _, p := range l {
		texts = append(texts, p.tell())
	}
	return texts
}

// wantApart asks that no list changes with another one.
func wantApart(t *testing.T, what string, l []piece) {
	t.Helper()
	for k := range l {
		before := tellPieces(l)
		l[k].spoil()
		now := tellPieces(l)
		before[k], now[k] = "", ""
		if !slices.Equal(before, now) {
			t.Fatalf("%s: the list %d of %d shares memory with another one", what, k, len(l))
		}
	}
}

func valueBehind(v impl.Value) impl.Value {
	return impl.Value{Nodes: slices.Concat(v.Nodes, []impl.Node{{Kind: impl.KindNumber, Num: 5, Name: "zz"}, {Kind: 99, Text: "behind", Up: 1}})[:len(v.Nodes)]}
}

// collectionBehind is a collection in new memory, in which more lies behind the length of each list.
func collectionBehind(c impl.Collection) impl.Collection {
	var made impl.Collection
	for _, v := range c.Docs {
		made.Docs = append(made.Docs, valueBehind(v))
	}
	for _, x := range c.Indexes {
		_, keys := behindLimbs(x.Keys.Limbs)
		made.Indexes = append(made.Indexes, impl.Index{Path: x.Path, Unique: x.Unique, Keys: keys})
	}
	made.Docs = append(made.Docs, treeIn(`{"_id":"zzz","a":"behind"}`).value(), impl.Value{})[:len(c.Docs)]
	made.Indexes = append(made.Indexes, impl.Index{Path: "/behind"}, impl.Index{})[:len(c.Indexes)]
	return made
}

// wantZeroBehind asks that nothing lies behind the lengths of an answer.
func wantZeroBehind(t *testing.T, what string, docs []impl.Value, indexes []impl.Index) {
	t.Helper()
	for _, v := range docs[len(docs):cap(docs)] {
		if v.Nodes != nil {
			t.Errorf("%s: behind the documents lies %v", what, v)
		}
	}
	for _, v := range docs {
		wantNothingBehind(t, what, v.Nodes)
	}
	for _, x := range indexes[len(indexes):cap(indexes)] {
		if x.Path != "" || x.Unique || x.Keys.Limbs != nil {
			t.Errorf("%s: behind the indexes lies %v", what, x)
		}
	}
	for _, x := range indexes {
		wantNothingBehindTreap(t, what, x.Keys)
	}
}

// lookCalls are the calls of the chapter that take a collection and answer lists or values; they tell the answer in four forms, of which most are empty.
func lookCalls(v impl.Value) map[string]func(impl.Collection) (impl.Collection, []impl.Value, []string, int) {
	calls := map[string]func(impl.Collection) (impl.Collection, []impl.Value, []string, int){
		"GoodCollection": func(c impl.Collection) (impl.Collection, []impl.Value, []string, int) {
			return impl.Collection{}, nil, nil, asNumber(impl.GoodCollection(c))
		},
		"FindDoc": func(c impl.Collection) (impl.Collection, []impl.Value, []string, int) {
			got, ok := impl.FindDoc(c, v)
			return impl.Collection{}, []impl.Value{got}, nil, asNumber(ok)
		},
		"IdOf": func(impl.Collection) (impl.Collection, []impl.Value, []string, int) {
			got, ok := impl.IdOf(v)
			return impl.Collection{}, []impl.Value{got}, nil, asNumber(ok)
		},
		"IndexKeys": func(c impl.Collection) (impl.Collection, []impl.Value, []string, int) {
			got, ok := impl.IndexKeys(c, 0)
			return impl.Collection{}, nil, got, asNumber(ok)
		},
		"ByIndex": func(c impl.Collection) (impl.Collection, []impl.Value, []string, int) {
			got, ok := impl.ByIndex(c, 0, impl.NumberOf(-9), v)
			return impl.Collection{}, got, nil, asNumber(ok)
		},
		"ByIndex, from it on": func(c impl.Collection) (impl.Collection, []impl.Value, []string, int) {
			got, ok := impl.ByIndex(c, 0, v, treeIn(`"~"`).value())
			return impl.Collection{}, got, nil, asNumber(ok)
		},
	}
	for name, call := range changeCalls() {
		calls[name] = func(c impl.Collection) (impl.Collection, []impl.Value, []string, int) {
			got, code := call(c, v)
			return got, nil, nil, code
		}
	}
	return calls
}

func asNumber(ok bool) int {
	if ok {
		return 1
	}
	return 0
}

// askedValues are documents and ids with which each code is told of threeDocs, and others.
func askedValues() []string {
	return []string{`1`, `2`, `"2"`, `9`, `"x"`, `null`, `[1]`, `{"a":1}`, `{"_id":1,"a":[1],"b":3}`, `{"_id":3,"a":{"x":[1]},"b":[5],"c":["q"]}`, `{"_id":3,"b":1}`, `{"_id":"2","b":"x"}`, `{"_id":[]}`}
}

func TestPromise19CollectionsStayAsTheyWere(t *testing.T) {
	all := brokenCollections()
	for _, great := range []string{"many documents too many", "many indexes too many"} {
		delete(all, great)
	}
	all["none"] = impl.Collection{}
	all["three"] = threeDocs().collection()
	all["forty"] = shelfOf("/a", "!/b").holding(manyDocs(40)...).collection()
	for what, c := range all {
		for _, text := range askedValues() {
			arg, v := collectionBehind(c), valueBehind(treeIn(text).value())
			pieces := append(collectionPieces(arg), nodesPiece(v.Nodes))
			before := tellPieces(pieces)
			bare := lookCalls(treeIn(text).value())
			for name, call := range lookCalls(v) {
				made, docs, texts, code := call(arg)
				wantMade, wantDocs, wantTexts, wantCode := bare[name](c)
				if code != wantCode || !sameCollection(made, wantMade) || !slices.EqualFunc(docs, wantDocs, sameValue) || !slices.Equal(texts, wantTexts) {
					t.Errorf("%s: %s of %s reads what lies behind a length", what, name, text)
				}
				wantZeroBehind(t, what+": "+name, docs, nil)
				wantZeroBehind(t, what+": "+name, made.Docs, made.Indexes)
				if slices.ContainsFunc(texts[len(texts):cap(texts)], func(s string) bool { return s != "" }) {
					t.Errorf("%s: %s: behind the keys lies %q", what, name, texts[:cap(texts)])
				}
				for _, p := range slices.Concat(collectionPieces(made), valuesPieces(docs), []piece{textsPiece(texts)}) {
					p.spoil()
				}
			}
			if !slices.Equal(tellPieces(pieces), before) {
				t.Errorf("%s: written into, or changed with an answer, at %s", what, text)
			}
		}
	}
}

func TestPromise19CollectionAnswersShareNothing(t *testing.T) {
	for _, s := range []shelf{shelfOf(), threeDocs(), shelfOf("/a", "!/b").holding(manyDocs(6)...)} {
		for _, text := range askedValues() {
			for name := range lookCalls(impl.Value{}) {
				c, v := s.collection(), treeIn(text).value()
				call := lookCalls(v)[name]
				made, docs, texts, _ := call(c)
				again, moreDocs, moreTexts, _ := call(c)
				wantApart(t, name+" of "+text, slices.Concat(collectionPieces(made), valuesPieces(docs), []piece{textsPiece(texts)},
					collectionPieces(again), valuesPieces(moreDocs), []piece{textsPiece(moreTexts)}, collectionPieces(c), []piece{nodesPiece(v.Nodes)}))
			}
		}
	}
}

// Lists that share memory in an argument share none in an answer.
func TestPromise19CollectionsOfSharedMemory(t *testing.T) {
	keys := shelfOf("/a").holding(`{"_id":1,"a":1}`).collection().Indexes[0].Keys
	v := treeIn(`{"_id":1,"a":1,"b":1}`).value()
	c := impl.Collection{Docs: []impl.Value{v}, Indexes: []impl.Index{{Path: "/a", Keys: keys}, {Path: "/b", Keys: keys}}}
	if !impl.GoodCollection(c) {
		t.Fatal("it is not good")
	}
	for name, call := range lookCalls(v) {
		made, docs, _, _ := call(c)
		wantApart(t, name, slices.Concat(collectionPieces(made), valuesPieces(docs)))
	}
	if !impl.GoodCollection(c) {
		t.Error("the argument changed with an answer")
	}
}

func TestPromise19NewCollectionSharesNothing(t *testing.T) {
	memory, more := []string{"/a", "/b", "/c", "/behind"}, []bool{true, false, true, true}
	first, _ := impl.NewCollection(memory[:3], more[:3])
	second, _ := impl.NewCollection(memory[:3], more[:3])
	want := shelfOf("!/a", "/b", "!/c")
	wantShelf(t, "the first", first, want)
	wantApart(t, "NewCollection", slices.Concat(collectionPieces(first), collectionPieces(second), []piece{textsPiece(memory)}))
	third, _ := impl.NewCollection([]string{"/a", "/b", "/c"}, more[:3])
	wantShelf(t, "the third", third, want)
	wantZeroBehind(t, "NewCollection", third.Docs, third.Indexes)
	if !slices.Equal(more, []bool{true, false, true, true}) {
		t.Errorf("written into: %v", more)
	}
}
