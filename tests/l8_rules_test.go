package tests

import (
	"slices"
	"strings"
	"testing"

	"loop.example/g00274/impl"
)

// threeDocs is a good collection of three documents and three indexes, of which the second one is unique.
func threeDocs() shelf {
	return shelfOf("/a", "!/b", "/c/0").holding(`{"_id":1,"a":7,"b":1,"c":[1]}`, `{"_id":2,"a":7,"b":"x"}`, `{"_id":"2","a":"y","b":2,"c":[[]]}`)
}

// collectionWith is threeDocs with a change.
func collectionWith(change func(c *impl.Collection)) impl.Collection {
	c := threeDocs().collection()
	change(&c)
	return c
}

// docsAs is threeDocs with other documents, and with the keys that these would have.
func docsAs(texts ...string) impl.Collection {
	s := shelfOf("/a", "!/b", "/c/0").holding(texts...)
	c := s.collection()
	for k, text := range texts {
		c.Docs[k] = treeIn(text).value()
	}
	return c
}

// keysAs is threeDocs with other keys in one of its indexes.
func keysAs(index int, p pairs) impl.Collection {
	return collectionWith(func(c *impl.Collection) { c.Indexes[index].Keys = p.treap() })
}

func (s shelf) pairs(index int) pairs {
	var p pairs
	for _, key := range s.keys(index) {
		p = p.with(key, "")
	}
	return p
}

func indexesAs(paths ...string) impl.Collection {
	s := threeDocs()
	s.paths, s.unique = paths, make([]bool, len(paths))
	return s.collection()
}

// brokenDocs break one rule of the documents each.
func brokenDocs() map[string]impl.Collection {
	one, two, three := `{"_id":1,"a":7}`, `{"_id":2,"b":2}`, `{"_id":"2","c":[3]}`
	noDocument := func(v impl.Value) impl.Collection {
		return collectionWith(func(c *impl.Collection) {
			c.Docs[2] = v
			c.Indexes = nil
		})
	}
	return map[string]impl.Collection{
		"ids that fall":             docsAs(two, one, three),
		"ids that fall at the end":  docsAs(one, three, two),
		"a text ahead of a number":  docsAs(three, one),
		"ids as their digits stand": docsAs(`{"_id":10}`, `{"_id":9}`),
		"ids by how long they are":  docsAs(`{"_id":"b"}`, `{"_id":"aa"}`),
		"two ids alike":             collectionWith(func(c *impl.Collection) { c.Docs = slices.Insert(c.Docs, 1, c.Docs[0]); c.Indexes = nil }),
		"two ids alike, of texts":   collectionWith(func(c *impl.Collection) { c.Docs = append(c.Docs, c.Docs[2]); c.Indexes = nil }),
		"two ids alike, other docs": {Docs: []impl.Value{treeIn(`{"_id":1}`).value(), treeIn(`{"_id":1,"b":1}`).value()}},
		"no _id":                    noDocument(treeIn(`{"a":1}`).value()),
		"an empty map":              noDocument(treeIn(`{}`).value()),
		"an _id of null":            noDocument(treeIn(`{"_id":null}`).value()),
		"an _id of a list":          noDocument(treeIn(`{"_id":["9"]}`).value()),
		"a list":                    noDocument(treeIn(`["_id"]`).value()),
		"a text":                    noDocument(treeIn(`"9"`).value()),
		"no value at all":           noDocument(impl.Value{}),
		"a value that is not good":  noDocument(mapOf("_id", textTree(strings.Repeat("i", 25))).value()),
		"too great a number":        noDocument(mapOf("_id", numberTree(1000000001)).value()),
		"no document first":         {Docs: []impl.Value{treeIn(`1`).value(), treeIn(`{"_id":1}`).value()}},
		"one document too many":     shelfOf().holding(manyDocs(41)...).collection(),
		"one too many and indexes":  shelfOf("/a", "!/b").holding(manyDocs(41)...).collection(),
		"many documents too many":   {Docs: slices.Repeat(shelfOf().holding(manyDocs(40)...).collection().Docs, 1000)},
	}
}

// brokenIndexes break one rule of the indexes each.
func brokenIndexes() map[string]impl.Collection {
	return map[string]impl.Collection{
		"one index too many":              indexesAs("/a", "/b", "/c/0", "/d"),
		"one index too many, none held":   shelfOf("/a", "/b", "/c", "/d").collection(),
		"many indexes too many":           {Indexes: make([]impl.Index, 100000)},
		"two indexes of one path":         indexesAs("/a", "/a"),
		"two of one path, not beside":     indexesAs("/a", "/b", "/a"),
		"two of one path, one unique":     collectionWith(func(c *impl.Collection) { c.Indexes[0] = c.Indexes[1]; c.Indexes[0].Unique = false }),
		"two of one path, none held":      shelfOf("/a", "/a").collection(),
		"the empty path":                  {Indexes: []impl.Index{{}}},
		"the empty path, behind":          {Indexes: []impl.Index{{Path: "/a"}, {}}},
		"no path":                         {Indexes: []impl.Index{{Path: "a"}}},
		"no path, behind":                 {Indexes: []impl.Index{{Path: "/a"}, {Path: "/~"}}},
		"a path that is too long":         {Indexes: []impl.Index{{Path: strings.Repeat("/", 61)}}},
		"a name that is too long":         {Indexes: []impl.Index{{Path: "/" + strings.Repeat("n", 25)}}},
		"two alike in a unique index":     collectionWith(func(c *impl.Collection) { c.Indexes[0].Unique = true }),
		"two alike, not beside by ids":    shelfOf("!/a").holding(`{"_id":1,"a":7}`, `{"_id":2,"a":8}`, `{"_id":3,"a":7}`).collection(),
		"two texts alike":                 shelfOf("/b", "!/a").holding(`{"_id":1,"a":"7"}`, `{"_id":"1","a":"7"}`).collection(),
		"two alike, keys of MaxKey bytes": shelfOf("!/a").holding(`{"_id":`+repeated("i", 18)+`,"a":`+repeated("x", 18)+`}`, `{"_id":`+repeated("j", 18)+`,"a":`+repeated("x", 18)+`}`).collection(),
	}
}

// brokenKeys break one rule of the keys of an index each.
func brokenKeys() map[string]impl.Collection {
	s := threeDocs()
	first, third := s.pairs(0), s.pairs(2)
	tooLong := shelfOf("/a").holding(`{"_id":` + repeated("i", 18) + `,"a":` + repeated("x", 19) + `}`)
	at := tooLong.docs[0].named()["a"].key()
	long := tooLong.collection()
	long.Indexes[0].Keys = pairs{{at + tooLong.docs[0].id().key(), ""}}.treap()
	cut := tooLong.collection()
	cut.Indexes[0].Keys = pairs{{(at + tooLong.docs[0].id().key())[:40], ""}}.treap()
	return map[string]impl.Collection{
		"a key that lacks":                 keysAs(0, first[1:]),
		"the last key that lacks":          keysAs(0, first[:2]),
		"the only key that lacks":          keysAs(2, nil),
		"a key too many":                   keysAs(0, first.with("x", "")),
		"a key too many, of a document":    keysAs(2, third.with(numberTree(1).key()+numberTree(2).key(), "")),
		"a key in place of another":        keysAs(0, first[1:].with(numberTree(8).key()+numberTree(1).key(), "")),
		"a key with another id":            keysAs(2, pairs{{numberTree(1).key() + numberTree(2).key(), ""}}),
		"a key without its id":             keysAs(2, pairs{{numberTree(1).key(), ""}}),
		"an id ahead of the key":           keysAs(2, pairs{{numberTree(2).key() + numberTree(1).key(), ""}}),
		"a key that has a value":           keysAs(0, first.with(first[0].key, "v")),
		"the only key that has a value":    keysAs(2, third.with(third[0].key, " ")),
		"keys of another index":            keysAs(0, s.pairs(1)),
		"a key of what is too long":        long,
		"a key that is cut":                cut,
		"sixty keys more":                  keysAs(0, pairsOf(manyKeys(60)...)),
		"keys where nothing is held":       {Indexes: []impl.Index{{Path: "/a", Keys: treapOf("k")}}},
		"a limb that is nothing but zeros": {Indexes: []impl.Index{{Path: "/a", Keys: impl.Treap{Limbs: []impl.Limb{{}}}}}},
		"another shape":                    collectionWith(func(c *impl.Collection) { c.Indexes[0].Keys = rightAlone(first) }),
		"a limb twice":                     collectionWith(func(c *impl.Collection) { c.Indexes[2].Keys.Limbs = slices.Repeat(c.Indexes[2].Keys.Limbs, 2) }),
		"a limb at its own left":           collectionWith(func(c *impl.Collection) { c.Indexes[2].Keys.Limbs[0].Left = 0 }),
	}
}

// rightAlone is a tree in order that asks for no weights, turned round where it would be right by chance.
func rightAlone(p pairs) impl.Treap {
	var right, left impl.Treap
	for k, x := range p {
		right.Limbs = append(right.Limbs, impl.Limb{Key: x.key, Left: -1, Right: k + 1})
		left.Limbs = append(left.Limbs, impl.Limb{Key: p[len(p)-1-k].key, Left: k + 1, Right: -1})
	}
	right.Limbs[len(p)-1].Right = -1
	left.Limbs[len(p)-1].Left = -1
	if sameTreap(right, p.treap()) {
		return left
	}
	return right
}

func brokenCollections() map[string]impl.Collection {
	all := brokenDocs()
	for rule, c := range brokenIndexes() {
		all[rule] = c
	}
	for rule, c := range brokenKeys() {
		all[rule] = c
	}
	return all
}

func TestPromise8CollectionsThatBreakARule(t *testing.T) {
	if many := len(brokenDocs()) + len(brokenIndexes()) + len(brokenKeys()); len(brokenCollections()) != many {
		t.Errorf("%d rules have %d names", many, len(brokenCollections()))
	}
	for rule, c := range brokenCollections() {
		if oracleGoodCollection(c) {
			t.Errorf("%s: it is good", rule)
		}
		wantNoCollection(t, rule, c)
	}
}

func TestPromise8CollectionsThatAreGood(t *testing.T) {
	for what, c := range map[string]impl.Collection{
		"nil":                        {},
		"none":                       {Docs: []impl.Value{}, Indexes: []impl.Index{}},
		"none, with room":            {Docs: make([]impl.Value, 0, 5), Indexes: make([]impl.Index, 0, 5)},
		"an index of none":           {Indexes: []impl.Index{{Path: "/a", Keys: impl.Treap{Limbs: []impl.Limb{}}}}},
		"a document and no index":    shelfOf().holding(`{"_id":1}`).collection(),
		"three":                      threeDocs().collection(),
		"forty":                      shelfOf("/a", "!/b", "/_id").holding(manyDocs(40)...).collection(),
		"a number ahead of a text":   shelfOf().holding(`{"_id":1000000000}`, `{"_id":""}`).collection(),
		"a unique index of one":      shelfOf("!/a").holding(`{"_id":1,"a":1}`, `{"_id":2}`).collection(),
		"two alike of two kinds":     shelfOf("!/a").holding(`{"_id":1,"a":1}`, `{"_id":2,"a":"1"}`).collection(),
		"two alike without keys":     shelfOf("!/a").holding(`{"_id":1,"a":[]}`, `{"_id":2,"a":[]}`).collection(),
		"two alike with long keys":   shelfOf("!/a").holding(`{"_id":`+repeated("i", 19)+`,"a":`+repeated("x", 18)+`}`, `{"_id":`+repeated("j", 19)+`,"a":`+repeated("x", 18)+`}`).collection(),
		"two alike, one with a key":  shelfOf("!/a").holding(`{"_id":`+repeated("i", 18)+`,"a":`+repeated("x", 18)+`}`, `{"_id":`+repeated("j", 19)+`,"a":`+repeated("x", 18)+`}`).collection(),
		"a key of MaxKey bytes":      shelfOf("/a").holding(`{"_id":` + repeated("i", 18) + `,"a":` + repeated("x", 18) + `}`).collection(),
		"paths that begin alike":     shelfOf("/a", "/a/a", "/aa").holding(`{"_id":1,"a":{"a":1},"aa":2}`).collection(),
		"the path of an empty name":  shelfOf("/").holding(`{"":1,"_id":1}`).collection(),
		"an index of what none has":  shelfOf("!/none").holding(`{"_id":1}`, `{"_id":2}`).collection(),
		"a document of eighty nodes": {Docs: []impl.Value{mapOf("_id", numberTree(1)).with("l", zeros(77)).value()}},
	} {
		if !impl.GoodCollection(c) || !oracleGoodCollection(c) {
			t.Errorf("%s: not good: %v", what, c)
		}
	}
}

// Collections that are disturbed, held against the rules told one by one.
func TestPromise8GoodCollectionAgainstTheRules(t *testing.T) {
	d := &dice{state: 82}
	good, bad := 0, 0
	for range 5000 {
		c := d.shelf(7).collection()
		for range d.below(3) {
			d.disturbCollection(&c)
		}
		want := oracleGoodCollection(c)
		if impl.GoodCollection(c) != want {
			t.Errorf("GoodCollection(%v) is not %v", c, want)
		}
		if want {
			good++
		} else {
			bad++
		}
	}
	if good < 1000 || bad < 1000 {
		t.Errorf("%d are good and %d are not: that tells little", good, bad)
	}
}

func (d *dice) disturbCollection(c *impl.Collection) {
	if len(c.Docs) > 0 {
		k, other := d.below(len(c.Docs)), d.below(len(c.Docs))
		switch d.below(6) {
		case 0:
			c.Docs[k], c.Docs[other] = c.Docs[other], c.Docs[k]
		case 1:
			c.Docs[k] = d.record().value()
		case 2:
			c.Docs = slices.Delete(c.Docs, k, k+1)
		case 3:
			c.Docs[k] = d.spoil(c.Docs[k])
		}
	}
	if len(c.Indexes) == 0 {
		return
	}
	x := &c.Indexes[d.below(len(c.Indexes))]
	switch d.below(8) {
	case 0:
		x.Unique = !x.Unique
	case 1:
		x.Path = append(recordPaths(), "", "a")[d.below(10)]
	case 2:
		x.Keys = c.Indexes[d.below(len(c.Indexes))].Keys
	case 3:
		if len(x.Keys.Limbs) > 0 {
			d.disturb(x.Keys.Limbs)
		}
	case 4:
		x.Keys, _ = impl.PutKey(x.Keys, d.keyTree().key()+d.keyTree().key(), "")
	}
}
