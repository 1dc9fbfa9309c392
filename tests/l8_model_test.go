package tests

import (
	"slices"
	"strings"
	"testing"

	"loop.example/g00274/impl"
)

// shelf is a collection told by trees alone: its documents stand as they came, and its keys are told anew each time.
type shelf struct {
	paths  []string
	unique []bool
	docs   []tree
}

// shelfOf takes the paths of the indexes, a unique one with a "!" ahead.
func shelfOf(paths ...string) shelf {
	var s shelf
	for _, path := range paths {
		bare, unique := strings.CutPrefix(path, "!")
		s.paths = append(s.paths, bare)
		s.unique = append(s.unique, unique)
	}
	return s
}

func (s shelf) holding(texts ...string) shelf {
	for _, text := range texts {
		s.docs = append(slices.Clone(s.docs), treeIn(text))
	}
	return s
}

func (s shelf) without(id tree) shelf {
	s.docs = slices.DeleteFunc(slices.Clone(s.docs), func(x tree) bool { return order(x.id(), id) == 0 })
	return s
}

func (s shelf) has(id tree) bool {
	return slices.ContainsFunc(s.docs, func(x tree) bool { return order(x.id(), id) == 0 })
}

func (s shelf) sorted() []tree {
	return slices.SortedFunc(slices.Values(s.docs), func(a tree, b tree) int { return order(a.id(), b.id()) })
}

func (x tree) isKeyed() bool {
	return x.kind == impl.KindNumber || x.kind == impl.KindText
}

func (x tree) isDocument() bool {
	if x.kind != impl.KindMap {
		return false
	}
	id, ok := x.named()["_id"]
	return ok && id.isKeyed()
}

// id takes a document.
func (x tree) id() tree {
	return x.named()["_id"]
}

// keyed tells the documents that have a key in an index, as they stand there.
func (s shelf) keyed(index int) []tree {
	var docs []tree
	for _, x := range s.docs {
		if at, ok := s.at(index, x); ok && at.isKeyed() && len(at.key())+len(x.id().key()) <= 40 {
			docs = append(docs, x)
		}
	}
	slices.SortFunc(docs, func(a tree, b tree) int {
		first, _ := s.at(index, a)
		second, _ := s.at(index, b)
		if n := order(first, second); n != 0 {
			return n
		}
		return order(a.id(), b.id())
	})
	return docs
}

func (s shelf) at(index int, x tree) (tree, bool) {
	names, _ := oraclePath(s.paths[index])
	return x.at(names)
}

func (s shelf) keys(index int) []string {
	var keys []string
	for _, x := range s.keyed(index) {
		at, _ := s.at(index, x)
		keys = append(keys, at.key()+x.id().key())
	}
	return keys
}

func (s shelf) between(index int, from tree, to tree) []tree {
	var docs []tree
	for _, x := range s.keyed(index) {
		if at, _ := s.at(index, x); order(at, from) >= 0 && order(at, to) < 0 {
			docs = append(docs, x)
		}
	}
	return docs
}

func (s shelf) clashes() bool {
	for index, unique := range s.unique {
		times := map[string]int{}
		for _, x := range s.keyed(index) {
			at, _ := s.at(index, x)
			times[at.tidy()]++
			if unique && times[at.tidy()] > 1 {
				return true
			}
		}
	}
	return false
}

func (s shelf) treap(index int) impl.Treap {
	var p pairs
	for _, key := range s.keys(index) {
		p = p.with(key, "")
	}
	return p.treap()
}

func (s shelf) collection() impl.Collection {
	var c impl.Collection
	for _, x := range s.sorted() {
		c.Docs = append(c.Docs, x.value())
	}
	for index, path := range s.paths {
		c.Indexes = append(c.Indexes, impl.Index{Path: path, Unique: s.unique[index], Keys: s.treap(index)})
	}
	return c
}

// insert, replace and delete say of documents and ids that are good what the chapter says.
func (s shelf) insert(x tree) (shelf, int) {
	made := s
	made.docs = slices.Concat(s.docs, []tree{x})
	switch {
	case !x.isDocument():
		return s, impl.CollBad
	case s.has(x.id()):
		return s, impl.CollTwice
	case len(s.docs) == 40:
		return s, impl.CollFull
	case made.clashes():
		return s, impl.CollUnique
	}
	return made, impl.CollOk
}

func (s shelf) replace(x tree) (shelf, int) {
	if !x.isDocument() {
		return s, impl.CollBad
	}
	if !s.has(x.id()) {
		return s, impl.CollNone
	}
	made := s.without(x.id())
	made.docs = append(made.docs, x)
	if made.clashes() {
		return s, impl.CollUnique
	}
	return made, impl.CollOk
}

func (s shelf) delete(id tree) (shelf, int) {
	if !id.isKeyed() {
		return s, impl.CollBad
	}
	if !s.has(id) {
		return s, impl.CollNone
	}
	return s.without(id), impl.CollOk
}

// oracleGoodCollection asks rule by rule.
func oracleGoodCollection(c impl.Collection) bool {
	if len(c.Docs) > 40 || len(c.Indexes) > 3 {
		return false
	}
	var s shelf
	for k, v := range c.Docs {
		if !oracleGood(v) || !treeOf(v.Nodes, 0).isDocument() {
			return false
		}
		s.docs = append(s.docs, treeOf(v.Nodes, 0))
		if k > 0 && order(s.docs[k-1].id(), s.docs[k].id()) >= 0 {
			return false
		}
	}
	for _, x := range c.Indexes {
		names, ok := oraclePath(x.Path)
		if !ok || len(names) == 0 || slices.Contains(s.paths, x.Path) {
			return false
		}
		s.paths = append(s.paths, x.Path)
		s.unique = append(s.unique, x.Unique)
	}
	for k, x := range c.Indexes {
		if !oracleGoodTreap(x.Keys) || !slices.Equal(bareKeys(x.Keys), s.keys(k)) {
			return false
		}
	}
	return !s.clashes()
}

// bareKeys tells the keys of limbs in their order, one that has a value in another way.
func bareKeys(t impl.Treap) []string {
	var keys []string
	for _, l := range t.Limbs {
		keys = append(keys, l.Key+strings.Repeat("has a value", len(l.Value)))
	}
	slices.Sort(keys)
	return keys
}

func sameIndex(a impl.Index, b impl.Index) bool {
	return a.Path == b.Path && a.Unique == b.Unique && sameTreap(a.Keys, b.Keys)
}

func sameCollection(a impl.Collection, b impl.Collection) bool {
	return slices.EqualFunc(a.Docs, b.Docs, sameValue) && slices.EqualFunc(a.Indexes, b.Indexes, sameIndex)
}

func wantShelf(t *testing.T, what string, got impl.Collection, want shelf) {
	t.Helper()
	if !sameCollection(got, want.collection()) {
		t.Errorf("%s is %v, not %v", what, got, want.collection())
	}
	if !impl.GoodCollection(got) || !oracleGoodCollection(got) {
		t.Errorf("%s is not good: %v", what, got)
	}
}

// wantInserted, wantReplaced and wantDeleted ask for a code and for the collection beside it.
func wantInserted(t *testing.T, s shelf, text string, code int) shelf {
	t.Helper()
	want, _ := s.insert(treeIn(text))
	got, gotCode := impl.InsertDoc(s.collection(), treeIn(text).value())
	if gotCode != code {
		t.Errorf("InsertDoc(%s) tells %d, not %d", text, gotCode, code)
	}
	wantShelf(t, "InsertDoc "+text, got, want)
	return want
}

func wantReplaced(t *testing.T, s shelf, text string, code int) shelf {
	t.Helper()
	want, _ := s.replace(treeIn(text))
	got, gotCode := impl.ReplaceDoc(s.collection(), treeIn(text).value())
	if gotCode != code {
		t.Errorf("ReplaceDoc(%s) tells %d, not %d", text, gotCode, code)
	}
	wantShelf(t, "ReplaceDoc "+text, got, want)
	return want
}

func wantDeleted(t *testing.T, s shelf, text string, code int) shelf {
	t.Helper()
	want, _ := s.delete(treeIn(text))
	got, gotCode := impl.DeleteDoc(s.collection(), treeIn(text).value())
	if gotCode != code {
		t.Errorf("DeleteDoc(%s) tells %d, not %d", text, gotCode, code)
	}
	wantShelf(t, "DeleteDoc "+text, got, want)
	return want
}

// wantFound asks FindDoc for the document of an id, or for none where the text is empty.
func wantFound(t *testing.T, c impl.Collection, id string, text string) {
	t.Helper()
	got, ok := impl.FindDoc(c, treeIn(id).value())
	if text == "" && (ok || len(got.Nodes) != 0) {
		t.Errorf("FindDoc(%s) is %v %v, not none", id, got, ok)
	}
	if text != "" && (!ok || !sameValue(got, treeIn(text).value())) {
		t.Errorf("FindDoc(%s) is %v %v, not %s", id, got, ok, text)
	}
}

// wantByIndex asks ByIndex for documents by their ids, in that order.
func wantByIndex(t *testing.T, s shelf, index int, from string, to string, ids ...string) {
	t.Helper()
	got, ok := impl.ByIndex(s.collection(), index, treeIn(from).value(), treeIn(to).value())
	var want []string
	for _, id := range ids {
		k := slices.IndexFunc(s.docs, func(x tree) bool { return x.id().tidy() == id })
		want = append(want, s.docs[k].tidy())
	}
	if !ok || !slices.Equal(textsOf(t, got), want) {
		t.Errorf("ByIndex of index %d from %s to %s is %v %v, not %v", index, from, to, textsOf(t, got), ok, want)
	}
}

// keyTree tells numbers and texts that often are alike, some of them long.
func (d *dice) keyTree() tree {
	switch d.below(8) {
	case 0, 1, 2:
		return numberTree(d.below(6) - 2)
	case 3:
		return numberTree([]int{1000000000, -1000000000, 255, 256, 65536}[d.below(5)])
	case 4, 5:
		return textTree([]string{"", "a", "aa", "b", "-1", "1", "~", " "}[d.below(8)])
	}
	return textTree(strings.Repeat(d.pick("ab"), 10+d.below(15)))
}

// record tells documents that have, at the paths of recordPaths, what has a key and what has none.
func (d *dice) record() tree {
	x := mapOf("_id", d.keyTree())
	if d.below(3) == 0 {
		x = mapOf("_id", numberTree(d.below(60)))
	}
	for _, name := range []string{"a", "b", "c"} {
		switch d.below(6) {
		case 0, 1, 2, 3:
			x = x.with(name, d.keyTree())
		case 4:
			x = x.with(name, d.small(2))
		}
	}
	return x
}

func recordPaths() []string {
	return []string{"/a", "/b", "/c", "/_id", "/a/0", "/b/a", "/", "/none"}
}

// shelf tells one that has no clashes, with documents that were put there one by one.
func (d *dice) shelf(most int) shelf {
	var s shelf
	for range d.below(4) {
		path := recordPaths()[d.below(8)]
		if !slices.Contains(s.paths, path) {
			s.paths = append(s.paths, path)
			s.unique = append(s.unique, d.below(2) == 0)
		}
	}
	for range d.below(most + 1) {
		s, _ = s.insert(d.record())
	}
	return s
}
