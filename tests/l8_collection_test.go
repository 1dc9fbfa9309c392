package tests

import (
	"slices"
	"strconv"
	"strings"
	"testing"

	"loop.example/g00274/impl"
)

func TestPromise8IdOf(t *testing.T) {
	for text, want := range map[string]string{
		`{"_id":1}`: `1`, `{"_id":0}`: `0`, `{"_id":-1000000000}`: `-1000000000`, `{"_id":"a"}`: `"a"`, `{"_id":""}`: `""`,
		`{"A":1,"_id":2,"a":3}`: `2`, `{"_id":"x","a":{"_id":5}}`: `"x"`, `{"":0,"_id":7,"_ie":8}`: `7`,
		`{"_id":"aaaaaaaaaaaaaaaaaaaaaaaa"}`: `"aaaaaaaaaaaaaaaaaaaaaaaa"`,
	} {
		got, ok := impl.IdOf(mustRead(t, text))
		if !ok || !sameValue(got, mustRead(t, want)) {
			t.Errorf("IdOf(%s) is %v %v, not %s", text, got, ok, want)
		}
	}
	for _, text := range []string{
		`{}`, `{"a":1}`, `{"id":1}`, `{"_ID":1}`, `{"_id ":1}`, `{"/_id":1}`, `{"a":{"_id":1}}`, `{"_id":null}`, `{"_id":false}`, `{"_id":true}`, `{"_id":[]}`,
		`{"_id":[1]}`, `{"_id":{}}`, `{"_id":{"_id":1}}`, `null`, `false`, `true`, `1`, `"_id"`, `[]`, `["_id"]`, `[{"_id":1}]`, `[1]`,
	} {
		if got, ok := impl.IdOf(mustRead(t, text)); ok || len(got.Nodes) != 0 {
			t.Errorf("IdOf(%s) is %v %v", text, got, ok)
		}
	}
}

func TestPromise8NewCollection(t *testing.T) {
	for _, paths := range [][]string{{}, {"/a"}, {"!/a"}, {"/a", "!/b"}, {"!/a", "/b", "!/c"}, {"/", "/a/0", "/~0~1"}, {"/a", "/a/a", "/A"},
		{"/_id"}, {strings.Repeat("/", 60)}, {"/" + strings.Repeat("n", 24)}, {"/c", "/b", "/a"}} {
		s := shelfOf(paths...)
		got, ok := impl.NewCollection(s.paths, s.unique)
		if !ok {
			t.Errorf("NewCollection(%v) is false", paths)
		}
		wantShelf(t, "NewCollection", got, s)
	}
	none, ok := impl.NewCollection(nil, nil)
	if !ok || len(none.Docs) != 0 || len(none.Indexes) != 0 {
		t.Errorf("NewCollection of no paths is %v %v", none, ok)
	}
}

func TestPromise8NewCollectionIsRefused(t *testing.T) {
	long := "/" + strings.Repeat("n", 25)
	for _, paths := range [][]string{{"/a", "/b", "/c", "/d"}, {"/a", "/b", "/c", "/a"}, slices.Repeat([]string{"/a"}, 100000), {""}, {"/a", ""}, {"", "/a", "/b"},
		{"a"}, {"/a", "b"}, {"/~"}, {"/~2"}, {"/a\n"}, {"/a", "/\x7f"}, {long}, {strings.Repeat("/", 61)}, {"/a", "/a"}, {"/a", "/b", "/a"}, {"/b", "/a", "/a"}, {"/", "/"}} {
		for _, unique := range []bool{false, true} {
			got, ok := impl.NewCollection(paths, slices.Repeat([]bool{unique}, len(paths)))
			wantNoneMade(t, "NewCollection", got, ok)
		}
	}
	got, ok := impl.NewCollection([]string{"/a", "/a"}, []bool{true, false})
	wantNoneMade(t, "of one path, unique and not", got, ok)
	for _, many := range [][2]int{{0, 1}, {1, 0}, {1, 2}, {2, 1}, {3, 2}, {2, 3}, {3, 4}, {0, 100000}} {
		got, ok := impl.NewCollection([]string{"/a", "/b", "/c"}[:many[0]], make([]bool, many[1]))
		wantNoneMade(t, "not as many", got, ok)
	}
}

func wantNoneMade(t *testing.T, what string, got impl.Collection, ok bool) {
	t.Helper()
	if ok || len(got.Docs) != 0 || len(got.Indexes) != 0 {
		t.Errorf("%s is %v %v", what, got, ok)
	}
}

// One collection with all its nodes and limbs.
func TestPromise8WrittenOut(t *testing.T) {
	c, _ := impl.NewCollection([]string{"/a", "/b"}, []bool{true, false})
	for _, text := range []string{`{"_id":"x","a":-1}`, `{"a":"q","_id":2,"b":"x"}`, `{"_id":1,"a":[],"b":"x"}`} {
		made, code := impl.InsertDoc(c, mustRead(t, text))
		if code != impl.CollOk {
			t.Fatalf("InsertDoc(%s) tells %d", text, code)
		}
		c = made
	}
	docs := []impl.Value{
		{Nodes: []impl.Node{{Kind: 7, Up: -1}, {Kind: 4, Num: 1, Name: "_id"}, {Kind: 6, Name: "a"}, {Kind: 5, Text: "x", Name: "b"}}},
		{Nodes: []impl.Node{{Kind: 7, Up: -1}, {Kind: 4, Num: 2, Name: "_id"}, {Kind: 5, Text: "q", Name: "a"}, {Kind: 5, Text: "x", Name: "b"}}},
		{Nodes: []impl.Node{{Kind: 7, Up: -1}, {Kind: 5, Text: "x", Name: "_id"}, {Kind: 4, Num: -1, Name: "a"}}},
	}
	lowA, highA := "\x04\x3b\x9a\xc9\xff\x05x\x01", "\x05q\x01\x04\x3b\x9a\xca\x02"
	lowB, highB := "\x05x\x01\x04\x3b\x9a\xca\x01", "\x05x\x01\x04\x3b\x9a\xca\x02"
	want := impl.Collection{Docs: docs, Indexes: []impl.Index{
		{Path: "/a", Unique: true, Keys: pairs{{lowA, ""}, {highA, ""}}.treap()},
		{Path: "/b", Keys: pairs{{lowB, ""}, {highB, ""}}.treap()},
	}}
	if !sameCollection(c, want) {
		t.Errorf("it is %v, not %v", c, want)
	}
	for index, want := range [][]string{{lowA, highA}, {lowB, highB}} {
		if keys, ok := impl.IndexKeys(c, index); !ok || !slices.Equal(keys, want) {
			t.Errorf("IndexKeys %d is %q %v", index, keys, ok)
		}
	}
}

func TestPromise8WhatIsPutIsFound(t *testing.T) {
	s := shelfOf("/a", "!/b")
	for _, text := range []string{`{"_id":5,"a":1}`, `{"_id":"5","a":1}`, `{"_id":-5,"b":1}`, `{"_id":"","a":1,"b":2}`, `{"_id":4,"b":3}`, `{"_id":6,"a":"x","b":"1"}`, `{"_id":"55","a":[]}`} {
		id := treeIn(text).id().tidy()
		wantFound(t, s.collection(), id, "")
		more := wantInserted(t, s, text, impl.CollOk)
		wantFound(t, more.collection(), id, text)
		wantInserted(t, more, text, impl.CollTwice)
		less := wantDeleted(t, more, id, impl.CollOk)
		if !sameCollection(less.collection(), s.collection()) {
			t.Errorf("it is not as it was: %v", less)
		}
		wantFound(t, less.collection(), id, "")
		wantDeleted(t, less, id, impl.CollNone)
		s = more
	}
	for _, x := range s.docs {
		wantFound(t, s.collection(), x.id().tidy(), x.tidy())
		less := wantDeleted(t, s, x.id().tidy(), impl.CollOk)
		wantFound(t, less.collection(), x.id().tidy(), "")
		wantInserted(t, less, x.tidy(), impl.CollOk)
	}
}

func TestPromise8FindDoc(t *testing.T) {
	s := shelfOf("/a").holding(`{"_id":1,"a":5}`, `{"_id":"1","a":6}`, `{"_id":3}`)
	wantFound(t, s.collection(), `1`, `{"_id":1,"a":5}`)
	wantFound(t, s.collection(), `"1"`, `{"_id":"1","a":6}`)
	wantFound(t, s.collection(), `3`, `{"_id":3}`)
	for _, id := range []string{`0`, `2`, `4`, `-1`, `5`, `""`, `"3"`, `"11"`, `" 1"`, `null`, `false`, `true`, `[]`, `[1]`, `{}`, `{"_id":1}`, `{"_id":1,"a":5}`} {
		wantFound(t, s.collection(), id, "")
		wantFound(t, shelfOf().collection(), id, "")
	}
}

func manyDocs(many int) []string {
	var texts []string
	for k := range many {
		texts = append(texts, `{"_id":`+strconv.Itoa(2*k)+`,"a":`+strconv.Itoa(k%7)+`,"b":`+strconv.Itoa(1000-k)+`}`)
	}
	return texts
}

func TestPromise8InsertDocTellsItsCodes(t *testing.T) {
	s := shelfOf("/a", "!/b").holding(`{"_id":1,"b":5}`, `{"_id":2,"b":"5"}`)
	for _, text := range []string{`null`, `1`, `"a"`, `[]`, `{}`, `{"a":1}`, `{"_id":null}`, `{"_id":[1]}`, `{"_id":{},"b":5}`, `{"b":5}`} {
		wantInserted(t, s, text, impl.CollBad)
	}
	wantInserted(t, s, `{"_id":1}`, impl.CollTwice)
	wantInserted(t, s, `{"_id":1,"b":5}`, impl.CollTwice)
	wantInserted(t, s, `{"_id":1,"b":"5"}`, impl.CollTwice)
	wantInserted(t, s, `{"_id":3,"b":5}`, impl.CollUnique)
	wantInserted(t, s, `{"_id":"1","b":"5"}`, impl.CollUnique)
	wantInserted(t, s, `{"_id":"1","a":5}`, impl.CollOk)
	wantInserted(t, s, `{"_id":0,"a":5,"b":[5]}`, impl.CollOk)
	wantInserted(t, s, `{"_id":3,"b":"55"}`, impl.CollOk)
}

func TestPromise8InsertDocAtMaxDocs(t *testing.T) {
	s := shelfOf("/a", "!/b").holding(manyDocs(39)...)
	full := wantInserted(t, s, `{"_id":"last","b":"b"}`, impl.CollOk)
	if len(full.docs) != 40 {
		t.Fatalf("there are %d", len(full.docs))
	}
	for _, text := range []string{`{"_id":-1}`, `{"_id":1}`, `{"_id":"z"}`, `{"_id":3,"b":1000}`, `{"_id":"","a":1,"b":"b"}`} {
		wantInserted(t, full, text, impl.CollFull)
	}
	for _, text := range []string{`{"_id":0}`, `{"_id":76}`, `{"_id":"last","b":"b"}`, `{"_id":4,"b":1000}`} {
		wantInserted(t, full, text, impl.CollTwice)
	}
	wantInserted(t, full, `{"a":1,"b":1000}`, impl.CollBad)
	wantReplaced(t, full, `{"_id":4,"b":-1}`, impl.CollOk)
	wantReplaced(t, full, `{"_id":4,"b":1000}`, impl.CollUnique)
	wantReplaced(t, full, `{"_id":5}`, impl.CollNone)
	less := wantDeleted(t, full, `4`, impl.CollOk)
	wantInserted(t, less, `{"_id":5,"b":998}`, impl.CollOk)
	wantInserted(t, less, `{"_id":5,"b":1000}`, impl.CollUnique)
}

func TestPromise8ReplaceDocTellsItsCodes(t *testing.T) {
	s := shelfOf("/a", "!/b", "!/c/0").holding(`{"_id":1,"a":1,"b":5}`, `{"_id":2,"a":1,"b":"5"}`, `{"_id":"2","c":[7]}`)
	for _, text := range []string{`null`, `2`, `[]`, `{}`, `{"b":5}`, `{"_id":true}`, `{"_id":[1]}`} {
		wantReplaced(t, s, text, impl.CollBad)
	}
	wantReplaced(t, s, `{"_id":3}`, impl.CollNone)
	wantReplaced(t, s, `{"_id":3,"b":5}`, impl.CollNone)
	wantReplaced(t, s, `{"_id":"1","b":"5"}`, impl.CollNone)
	wantReplaced(t, s, `{"_id":1,"b":"5"}`, impl.CollUnique)
	wantReplaced(t, s, `{"_id":2,"b":5,"c":[7]}`, impl.CollUnique)
	wantReplaced(t, s, `{"_id":2,"c":[7]}`, impl.CollUnique)
	for _, text := range []string{`{"_id":1,"a":1,"b":5}`, `{"_id":1}`, `{"_id":1,"b":5}`, `{"_id":1,"a":"x","b":6}`, `{"_id":2,"b":"5","c":[8]}`, `{"_id":"2","c":[7,7]}`, `{"_id":"2","c":7}`, `{"_id":2,"a":[1]}`} {
		wantReplaced(t, s, text, impl.CollOk)
	}
	// What is free again may be taken.
	freed := wantReplaced(t, s, `{"_id":1,"b":6}`, impl.CollOk)
	wantReplaced(t, freed, `{"_id":2,"b":5}`, impl.CollOk)
	wantReplaced(t, shelfOf(), `{"_id":1}`, impl.CollNone)
}

func TestPromise8DeleteDocTellsItsCodes(t *testing.T) {
	s := shelfOf("!/a", "/_id").holding(`{"_id":1,"a":1}`, `{"_id":"1","a":2}`, `{"_id":2}`)
	for _, id := range []string{`null`, `false`, `true`, `[]`, `[1]`, `{}`, `{"_id":1}`, `{"_id":1,"a":1}`} {
		wantDeleted(t, s, id, impl.CollBad)
		wantDeleted(t, shelfOf(), id, impl.CollBad)
	}
	for _, id := range []string{`0`, `3`, `""`, `"2"`, `"11"`} {
		wantDeleted(t, s, id, impl.CollNone)
		wantDeleted(t, shelfOf(), id, impl.CollNone)
	}
	for _, id := range []string{`1`, `"1"`, `2`} {
		s = wantDeleted(t, s, id, impl.CollOk)
	}
	if len(s.docs) != 0 {
		t.Errorf("there is still %v", s)
	}
}

// Any index that is not right counts, whichever it is; and none of the others changes then.
func TestPromise8EachIndexMayBeUnique(t *testing.T) {
	for k, paths := range [][]string{{"!/a", "/b", "/c"}, {"/b", "!/a", "/c"}, {"/b", "/c", "!/a"}, {"!/b", "!/c", "!/a"}} {
		s := shelfOf(paths...).holding(`{"_id":1,"a":1,"b":1,"c":1}`, `{"_id":2,"a":2,"b":2,"c":2}`)
		wantInserted(t, s, `{"_id":3,"a":1,"b":3,"c":3}`, impl.CollUnique)
		wantReplaced(t, s, `{"_id":2,"a":1,"b":3,"c":3}`, impl.CollUnique)
		code := impl.CollOk
		if k == 3 {
			code = impl.CollUnique
		}
		wantInserted(t, s, `{"_id":3,"a":3,"b":1,"c":1}`, code)
		wantReplaced(t, s, `{"_id":2,"a":3,"b":1,"c":1}`, code)
	}
}

func repeated(name string, many int) string {
	return `"` + strings.Repeat(name, many) + `"`
}

// A key has two bytes more than each of its texts: 36 bytes of texts make one of MaxKey bytes.
func TestPromise8KeysOfMaxKeyBytes(t *testing.T) {
	for ofId := 12; ofId <= 24; ofId++ {
		id := repeated("i", ofId)
		just, beyond := `{"_id":`+id+`,"a":`+repeated("x", 36-ofId)+`}`, ""
		s := wantInserted(t, shelfOf("/a"), just, impl.CollOk)
		if keys, ok := impl.IndexKeys(s.collection(), 0); !ok || len(keys) != 1 || len(keys[0]) != 40 {
			t.Errorf("the keys are %q %v", keys, ok)
		}
		if ofId > 12 {
			beyond = `{"_id":` + id + `,"a":` + repeated("x", 37-ofId) + `}`
			longer := wantInserted(t, shelfOf("/a"), beyond, impl.CollOk)
			wantFound(t, longer.collection(), id, beyond)
			if keys, ok := impl.IndexKeys(longer.collection(), 0); !ok || len(keys) != 0 {
				t.Errorf("the keys are %q %v", keys, ok)
			}
			wantReplaced(t, s, beyond, impl.CollOk)
			wantReplaced(t, longer, just, impl.CollOk)
			wantDeleted(t, longer, id, impl.CollOk)
			wantByIndex(t, longer, 0, `""`, `"y"`)
		}
		wantByIndex(t, s, 0, `""`, `"y"`, id)
	}
	wantInserted(t, shelfOf("/_id"), `{"_id":`+repeated("i", 18)+`}`, impl.CollOk)
	wantInserted(t, shelfOf("/_id"), `{"_id":`+repeated("i", 19)+`}`, impl.CollOk)
}

func TestPromise8UniqueOfKeysThatAreTooLong(t *testing.T) {
	same := repeated("x", 20)
	long, longer, short := repeated("i", 17), repeated("i", 18), repeated("i", 16)
	s := wantInserted(t, shelfOf("!/a"), `{"_id":`+long+`,"a":`+same+`}`, impl.CollOk)
	s = wantInserted(t, s, `{"_id":`+longer+`,"a":`+same+`}`, impl.CollOk)
	// One alone that has a key is unique, too.
	s = wantInserted(t, s, `{"_id":`+short+`,"a":`+same+`}`, impl.CollOk)
	wantInserted(t, s, `{"_id":1,"a":`+same+`}`, impl.CollUnique)
	wantInserted(t, s, `{"_id":`+repeated("i", 19)+`,"a":`+same+`}`, impl.CollOk)
	wantInserted(t, s, `{"_id":`+repeated("j", 16)+`,"a":`+same+`}`, impl.CollUnique)
	wantReplaced(t, s, `{"_id":`+longer+`,"a":"y"}`, impl.CollOk)
	wantReplaced(t, s, `{"_id":`+long+`,"a":`+same+`,"b":1}`, impl.CollOk)
}

func TestPromise8WhatHasNoKey(t *testing.T) {
	s := shelfOf("!/a", "!/a/0", "!/a/b")
	for _, text := range []string{`{"_id":1}`, `{"_id":2}`, `{"_id":3,"a":null}`, `{"_id":4,"a":null}`, `{"_id":5,"a":false}`, `{"_id":6,"a":false}`, `{"_id":7,"a":true}`, `{"_id":8,"a":true}`,
		`{"_id":9,"a":[]}`, `{"_id":10,"a":[]}`, `{"_id":11,"a":{}}`, `{"_id":12,"a":{}}`, `{"_id":13,"a":{"b":[]}}`, `{"_id":14,"a":[[1]]}`, `{"_id":15,"b":1}`, `{"_id":16,"A":1}`} {
		s = wantInserted(t, s, text, impl.CollOk)
	}
	for index := range 3 {
		if keys, ok := impl.IndexKeys(s.collection(), index); !ok || len(keys) != 0 {
			t.Errorf("the keys are %q %v", keys, ok)
		}
		wantByIndex(t, s, index, `-1000000000`, `"~"`)
	}
	s = wantInserted(t, s, `{"_id":17,"a":["x"]}`, impl.CollOk)
	s = wantInserted(t, s, `{"_id":18,"a":{"b":"x"}}`, impl.CollOk)
	wantByIndex(t, s, 0, `-1000000000`, `"~"`)
	wantByIndex(t, s, 1, `-1000000000`, `"~"`, `17`)
	wantByIndex(t, s, 2, `-1000000000`, `"~"`, `18`)
	wantInserted(t, s, `{"_id":19,"a":{"b":"x"}}`, impl.CollUnique)
}

func TestPromise8IndexKeys(t *testing.T) {
	s := shelfOf("/a", "!/b", "/_id").holding(manyDocs(9)...).holding(`{"_id":"x","a":"x"}`, `{"_id":"y","a":-7,"b":"y"}`, `{"_id":"z"}`)
	for index, many := range []int{11, 10, 12} {
		keys, ok := impl.IndexKeys(s.collection(), index)
		if !ok || !slices.Equal(keys, s.keys(index)) || len(keys) != many || !slices.IsSorted(keys) {
			t.Errorf("IndexKeys %d is %q %v", index, keys, ok)
		}
	}
	for _, index := range []int{least, -2, -1, 3, 4, 1000, greatest} {
		if keys, ok := impl.IndexKeys(s.collection(), index); ok || len(keys) != 0 {
			t.Errorf("IndexKeys %d is %q %v", index, keys, ok)
		}
	}
	for _, index := range []int{-1, 0, 1} {
		if keys, ok := impl.IndexKeys(shelfOf().collection(), index); ok || len(keys) != 0 {
			t.Errorf("IndexKeys %d of no index is %q %v", index, keys, ok)
		}
	}
	if keys, ok := impl.IndexKeys(shelfOf("/a").collection(), 0); !ok || len(keys) != 0 {
		t.Errorf("IndexKeys of no documents is %q %v", keys, ok)
	}
}

func TestPromise8ByIndex(t *testing.T) {
	s := shelfOf("/a", "/b").holding(`{"_id":4,"a":5,"b":1}`, `{"_id":3,"a":5,"b":2}`, `{"_id":"2","a":5}`, `{"_id":1,"a":-7}`, `{"_id":2,"a":"5"}`, `{"_id":5,"a":"","b":4}`, `{"_id":6,"a":6}`, `{"_id":7,"a":[5]}`, `{"_id":8}`)
	wantByIndex(t, s, 0, `-1000000000`, `1000000000`, `1`, `3`, `4`, `"2"`, `6`)
	wantByIndex(t, s, 0, `5`, `6`, `3`, `4`, `"2"`)
	wantByIndex(t, s, 0, `-7`, `5`, `1`)
	wantByIndex(t, s, 0, `-7`, `-6`, `1`)
	wantByIndex(t, s, 0, `-6`, `5`)
	wantByIndex(t, s, 0, `6`, `7`, `6`)
	wantByIndex(t, s, 0, `7`, `1000000000`)
	wantByIndex(t, s, 0, `6`, `"5"`, `6`, `5`)
	wantByIndex(t, s, 0, `6`, `"50"`, `6`, `5`, `2`)
	wantByIndex(t, s, 0, `""`, `"5"`, `5`)
	wantByIndex(t, s, 0, `""`, `"~"`, `5`, `2`)
	wantByIndex(t, s, 0, `" "`, `"~"`, `2`)
	wantByIndex(t, s, 0, `"5"`, `"5 "`, `2`)
	wantByIndex(t, s, 0, `"4"`, `"5"`)
	wantByIndex(t, s, 0, `1000000000`, `""`)
	// From and to alike, or the greater one first: none.
	for _, two := range [][2]string{{`5`, `5`}, {`"5"`, `"5"`}, {`6`, `5`}, {`1000000000`, `-1000000000`}, {`""`, `6`}, {`"5"`, `5`}, {`"~"`, `""`}} {
		wantByIndex(t, s, 0, two[0], two[1])
	}
	wantByIndex(t, s, 1, `0`, `9`, `4`, `3`, `5`)
	wantByIndex(t, s, 1, `2`, `4`, `3`)
	wantByIndex(t, shelfOf("/a"), 0, `-5`, `5`)
}

func TestPromise8ByIndexOfOtherValues(t *testing.T) {
	c := shelfOf("/a").holding(`{"_id":1,"a":5}`, `{"_id":2,"a":"x"}`).collection()
	for _, other := range []string{`null`, `false`, `true`, `[]`, `[5]`, `{}`, `{"_id":1,"a":5}`} {
		for _, two := range [][2]string{{other, `9`}, {`0`, other}, {other, other}, {other, `"z"`}, {`""`, other}} {
			if got, ok := impl.ByIndex(c, 0, mustRead(t, two[0]), mustRead(t, two[1])); ok || len(got) != 0 {
				t.Errorf("ByIndex from %s to %s is %v %v", two[0], two[1], got, ok)
			}
		}
	}
	for _, index := range []int{least, -2, -1, 1, 2, 3, 1000, greatest} {
		if got, ok := impl.ByIndex(c, index, impl.NumberOf(0), impl.NumberOf(9)); ok || len(got) != 0 {
			t.Errorf("ByIndex of index %d is %v %v", index, got, ok)
		}
	}
}

// Documents are the same in whatever order they are put.
func TestPromise8AnyOrder(t *testing.T) {
	texts := pairsOf(`{"_id":1,"a":3}`, `{"_id":"1","a":2}`, `{"_id":2,"a":1}`, `{"_id":-1,"a":3}`, `{"_id":"b","b":2}`)
	want := shelfOf("/a", "!/b").holding(texts.keys()...)
	eachOrder(texts, func(order pairs) {
		c := shelfOf("/a", "!/b").collection()
		for _, x := range order {
			made, code := impl.InsertDoc(c, mustRead(t, x.key))
			if code != impl.CollOk {
				t.Errorf("InsertDoc(%s) tells %d", x.key, code)
			}
			c = made
		}
		wantShelf(t, "an order", c, want)
	})
}

// A long row of changes, each held against trees.
func TestPromise8ManyChanges(t *testing.T) {
	d := &dice{state: 81}
	times := map[[2]int]int{}
	for range 20 {
		s := d.shelf(0)
		c := s.collection()
		for range 200 {
			x := d.record()
			if len(s.docs) > 0 && d.below(3) == 0 {
				x = x.with("_id", s.docs[d.below(len(s.docs))].id())
			}
			var code, want int
			kind := max(0, d.below(9)-6)
			switch kind {
			case 0:
				c, code = impl.InsertDoc(c, x.value())
				s, want = s.insert(x)
			case 1:
				c, code = impl.ReplaceDoc(c, x.value())
				s, want = s.replace(x)
			case 2:
				c, code = impl.DeleteDoc(c, x.id().value())
				s, want = s.delete(x.id())
			}
			times[[2]int{kind, code}]++
			if code != want || !sameCollection(c, s.collection()) {
				t.Fatalf("change %d by %s tells %d, not %d: %v", kind, x.tidy(), code, want, c)
			}
			wantLooks(t, d, c, s)
		}
	}
	for _, asked := range [][2]int{{0, impl.CollOk}, {0, impl.CollTwice}, {0, impl.CollFull}, {0, impl.CollUnique}, {1, impl.CollOk}, {1, impl.CollNone}, {1, impl.CollUnique}, {2, impl.CollOk}, {2, impl.CollNone}} {
		if times[asked] < 20 {
			t.Errorf("%d times the change %d with the code %d: that tells little", times[asked], asked[0], asked[1])
		}
	}
}

// wantLooks holds what is found in a collection against trees, at an id and at bounds that the dice tell.
func wantLooks(t *testing.T, d *dice, c impl.Collection, s shelf) {
	t.Helper()
	id, from, to := d.keyTree(), d.keyTree(), d.keyTree()
	want := ""
	for _, x := range s.docs {
		if order(x.id(), id) == 0 {
			want = x.tidy()
		}
	}
	wantFound(t, c, id.tidy(), want)
	for index := range s.paths {
		keys, ok := impl.IndexKeys(c, index)
		if !ok || !slices.Equal(keys, s.keys(index)) {
			t.Errorf("IndexKeys %d is %q %v, not %q", index, keys, ok, s.keys(index))
		}
		var want []string
		for _, x := range s.between(index, from, to) {
			want = append(want, x.tidy())
		}
		got, ok := impl.ByIndex(c, index, from.value(), to.value())
		if !ok || !slices.Equal(textsOf(t, got), want) {
			t.Errorf("ByIndex %d from %s to %s is %v %v, not %v", index, from.tidy(), to.tidy(), textsOf(t, got), ok, want)
		}
	}
}
