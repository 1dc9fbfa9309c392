package tests

import (
	"strconv"
	"strings"
	"testing"

	"loop.example/g00274/impl"
)

func TestPromise18Insert(t *testing.T) {
	wantSpoken(t,
		spoken{`insert {"_id":1,"a":3}`, "ok"},
		spoken{`insert {"_id":"1","a":3}`, "ok"},
		spoken{`insert {"a":{"b":[1,"x",null,true,false,{}]},"_id":-1000000000}`, "ok"},
		spoken{`insert   { "_id" : 2 , "b" : "two  blanks" }  `, "ok"},
		spoken{`find 2`, `doc {"_id":2,"b":"two  blanks"}`},
		spoken{`insert {"_id":"\u0061\/"}`, "ok"},
		spoken{`find "a/"`, `doc {"_id":"a/"}`},
		spoken{`insert {"_id":""}`, "ok"},
		spoken{`insert {"_id":1,"a":3}`, "no 2"},
		spoken{`insert {"_id":1,"other":3}`, "no 2"},
		spoken{`insert {"_id":"1"}`, "no 2"},
		spoken{`find 1`, `doc {"_id":1,"a":3}`},
		spoken{`find -1000000000`, `doc {"_id":-1000000000,"a":{"b":[1,"x",null,true,false,{}]}}`})
}

func TestPromise18InsertOfNoDocument(t *testing.T) {
	wantEach(t, fewDocs(), "no 1", `insert 1`, `insert "x"`, `insert null`, `insert []`, `insert {}`, `insert {"a":1}`, `insert {"_id":null}`, `insert {"_id":true}`,
		`insert {"_id":[1]}`, `insert {"_id":{}}`, `insert [{"_id":9}]`, `insert {"a":{"_id":9}}`, `insert {"_ID":9}`)
	// A value that is not read has the code of one that is no document.
	wantEach(t, fewDocs(), "no 1", `insert `, `insert  `, `insert {`, `insert {"_id":9`, `insert {"_id":9}}`, `insert {"_id":9} {"_id":10}`, `insert {"_id":9} 1`, `insert {_id:9}`,
		`insert {"_id":-0}`, `insert {"_id":1.5}`, `insert {"_id":1000000001}`, `insert {"_id":9,"_id":10}`, "insert {\"_id\":9}\t", "insert {\"_id\":\"\x7f\"}", "insert {\"_id\":9}\x00", `insert x`, "insert \xff")
}

func TestPromise18InsertOfAFullCollection(t *testing.T) {
	var l []spoken
	for k := range 40 {
		l = append(l, spoken{`insert {"_id":` + strconv.Itoa(k) + `,"a":7}`, "ok"})
	}
	l = append(l,
		spoken{"keys", "keys 40"}, spoken{"eq /a 7", "found 40 of 40"},
		spoken{`insert {"_id":40}`, "no 4"}, spoken{`insert {"_id":"0"}`, "no 4"},
		// What has an earlier code has that one.
		spoken{`insert {"_id":39}`, "no 2"}, spoken{`insert {"a":39}`, "no 1"}, spoken{`insert {`, "no 1"},
		spoken{`replace {"_id":39}`, "ok"}, spoken{"inc 39 5", "ok"}, spoken{"find 40", "none"},
		spoken{"delete 0", "ok"}, spoken{`insert {"_id":40}`, "ok"}, spoken{`insert {"_id":0}`, "no 4"},
		spoken{"keys", "keys 39"}, spoken{"eq /a 5", "found 1 of 1"}, spoken{"eq /_id 40", "found 1 of 40"})
	wantSpoken(t, l...)
}

// The index is not unique: the same may stand there often, so no line has that code.
func TestPromise18TheIndexIsNotUnique(t *testing.T) {
	wantSpoken(t,
		spoken{`insert {"_id":1,"a":5}`, "ok"}, spoken{`insert {"_id":2,"a":5}`, "ok"}, spoken{`insert {"_id":3,"a":4}`, "ok"},
		spoken{`replace {"_id":3,"a":5}`, "ok"}, spoken{`insert {"_id":4,"a":4}`, "ok"}, spoken{"inc 4 1", "ok"},
		spoken{"keys", "keys 4"}, spoken{"eq /a 5", "found 4 of 4"})
}

func TestPromise18Replace(t *testing.T) {
	wantSpoken(t,
		spoken{`replace {"_id":1}`, "no 3"},
		spoken{`insert {"_id":1,"a":3}`, "ok"},
		spoken{`replace {"_id":1,"b":4}`, "ok"},
		spoken{`find 1`, `doc {"_id":1,"b":4}`},
		spoken{`replace  { "c" : 5 , "_id" : 1 } `, "ok"},
		spoken{`find 1`, `doc {"_id":1,"c":5}`},
		spoken{`replace {"_id":1,"c":5}`, "ok"},
		spoken{`replace {"_id":"1","c":5}`, "no 3"},
		spoken{`replace {"_id":2,"c":5}`, "no 3"},
		spoken{`delete 1`, "ok"},
		spoken{`replace {"_id":1,"b":4}`, "no 3"},
		spoken{`find 1`, "none"})
	wantEach(t, fewDocs(), "no 1", `replace 1`, `replace "x"`, `replace [1]`, `replace {}`, `replace {"a":1}`, `replace {"_id":[1]}`, `replace {"_id":null}`,
		`replace `, `replace  `, `replace {"_id":1`, `replace {"_id":1} {"_id":1}`, `replace 1 {"_id":1}`, `replace {"_id":01}`, "replace \x01")
}

func TestPromise18Delete(t *testing.T) {
	wantSpoken(t,
		spoken{`delete 1`, "no 3"},
		spoken{`insert {"_id":1,"a":3}`, "ok"}, spoken{`insert {"_id":"1","a":3}`, "ok"}, spoken{`insert {"_id":"a b"}`, "ok"},
		spoken{`delete "1"`, "ok"}, spoken{`delete "1"`, "no 3"}, spoken{`find "1"`, "none"}, spoken{`find 1`, `doc {"_id":1,"a":3}`},
		spoken{`delete   1 `, "ok"}, spoken{`delete "\u0061 b"`, "ok"}, spoken{`delete "a b"`, "no 3"}, spoken{`keys`, "keys 0"})
	wantEach(t, fewDocs(), "no 1", `delete null`, `delete true`, `delete false`, `delete []`, `delete [1]`, `delete {}`, `delete {"_id":1}`, `delete {"_id":99}`,
		`delete `, `delete  `, `delete x`, `delete "x`, `delete 1 2`, `delete 1,2`, `delete 01`, `delete -0`, `delete 1000000001`, "delete 1\t", "delete \x80")
	wantEach(t, fewDocs(), "no 3", `delete 3`, `delete "2"`, `delete ""`, `delete 1000000000`, `delete -1`, `delete "_id"`)
}

func TestPromise18Find(t *testing.T) {
	wantEach(t, fewDocs(), `doc {"_id":1,"a":3}`, `find 1`, `find  1`, `find 1 `, `find   1  `)
	wantEach(t, fewDocs(), `doc {"_id":"1","a":3}`, `find "1"`, `find  "1" `, `find "\u0031"`)
	wantEach(t, fewDocs(), `doc {"_id":2,"a":9,"b":3}`, `find 2`)
	wantEach(t, fewDocs(), "none", `find 3`, `find "2"`, `find "X"`, `find ""`, `find -1`, `find 1000000000`)
	// What is no id is not there, and neither is what is not read.
	wantEach(t, fewDocs(), "none", `find null`, `find [1]`, `find {"_id":1}`, `find {"_id":1,"a":3}`, `find {}`, `find true`,
		`find `, `find  `, `find x`, `find 1 1`, `find 01`, `find 1,`, `find "1`, "find 1\t", "find \x00", "find \xff1", `find 1000000001`)
}

func TestPromise18FindTellsTheTidyText(t *testing.T) {
	ahead := []string{`insert { "b" : [ ] , "_id" : "q\"\\" , "a" : "\u007e\/" }`}
	wantSaid(t, ahead, `find "q\"\\"`, `doc {"_id":"q\"\\","a":"~/","b":[]}`)
}

func TestPromise18TermsByThePlan(t *testing.T) {
	// Of the keys 3, 9, 3, "3" and -3 those alone are looked at that lie within the bounds.
	for line, answer := range map[string]string{
		`eq /a 3`: "found 2 of 2", `eq /a 9`: "found 1 of 1", `eq /a 4`: "found 0 of 0", `eq /a "3"`: "found 1 of 1", `eq /a ""`: "found 0 of 0",
		`lt /a 3`: "found 1 of 1", `lt /a 9`: "found 3 of 3", `lt /a -3`: "found 0 of 0", `lt /a "3"`: "found 0 of 0", `lt /a "4"`: "found 1 of 1",
		`gt /a 3`: "found 1 of 3", `gt /a 9`: "found 0 of 1", `gt /a -4`: "found 4 of 4", `gt /a 10`: "found 0 of 0", `gt /a ""`: "found 1 of 1", `gt /a "3"`: "found 0 of 1",
		`eq /a  3 `: "found 2 of 2", `eq /a "\u0033"`: "found 1 of 1",
	} {
		wantSaid(t, fewDocs(), line, answer)
	}
}

func TestPromise18TermsWithoutAPlan(t *testing.T) {
	for line, answer := range map[string]string{
		// By another path all seven are looked at, and by /a with a value that is no number and no text.
		`eq /_id 1`: "found 1 of 7", `lt /_id 4`: "found 2 of 7", `gt /_id 4`: "found 2 of 7", `gt /_id "1"`: "found 1 of 7", `eq /b 3`: "found 1 of 7", `eq /none 3`: "found 0 of 7",
		`eq /a/0 3`: "found 1 of 7", `eq /a [3]`: "found 1 of 7", `eq /a [ 3 ]`: "found 1 of 7", `lt /a [4]`: "found 1 of 7", `gt /a [4]`: "found 0 of 7", `eq /a null`: "found 0 of 7",
		`gt /a []`: "found 1 of 7", `gt /a {}`: "found 0 of 7", `lt /a true`: "found 0 of 7", `eq / 1`: "found 0 of 7", `eq /~0 1`: "found 0 of 7",
		// The empty text is a path, too: it leads to the whole.
		`eq  {"_id":4}`: "found 1 of 7", `eq  { "a" : 3 , "_id" : 1 }`: "found 1 of 7", `lt  {"_id":2}`: "found 1 of 7", `gt  {"a":1}`: "found 0 of 7", `eq  1`: "found 0 of 7",
	} {
		wantSaid(t, fewDocs(), line, answer)
	}
	wantSaid(t, nil, "eq /a 3", "found 0 of 0")
	wantSaid(t, nil, "eq /b 3", "found 0 of 0")
}

// A key that is too long stands in no index: then all are looked at by a plan's path, too.
func TestPromise18TermsOfKeysThatAreTooLong(t *testing.T) {
	long := strings.Repeat("l", 24)
	ahead := append(fewDocs(), `insert {"_id":"`+long+`","a":"`+long+`"}`)
	wantSaid(t, ahead, "keys", "keys 5")
	wantSaid(t, ahead, "eq /a 3", "found 2 of 8")
	wantSaid(t, ahead, `eq /a "`+long+`"`, "found 1 of 8")
	wantSaid(t, append(ahead, `replace {"_id":"`+long+`","a":1}`), "eq /a 3", "found 2 of 2")
	wantSaid(t, append(ahead, `delete "`+long+`"`), "eq /a 3", "found 2 of 2")
}

func TestPromise18TermsThatAreNotGood(t *testing.T) {
	for _, word := range []string{"eq", "lt", "gt"} {
		for _, rest := range []string{
			"a 3", "a/ 3", "/~ 3", "/a~2 3", "/\x7f 3", "/\xff 3", "/" + strings.Repeat("n", 25) + " 3", strings.Repeat("/n", 31) + " 3", "3 /a",
			"/a ", "/a  ", "/a x", "/a 3 4", "/a 3,", "/a {", "/a 03", "/a -0", "/a 1000000001", "/a \"3", "/a 3\t", "/a \x00", "/a \xff",
			" /a 3", " ", "  ", " x",
		} {
			wantSaid(t, fewDocs(), word+" "+rest, "no")
			wantSaid(t, nil, word+" "+rest, "no")
		}
		wantEach(t, fewDocs(), "what", word, word+" ", word+" /a", word+" 3", word+" x")
		// Here the path is the empty text, and what is told has a blank more ahead.
		wantSaid(t, fewDocs(), word+"   3", "found 0 of 7")
		wantSaid(t, fewDocs(), word+" /"+strings.Repeat("n", 24)+" 3", "found 0 of 7")
		wantSaid(t, fewDocs(), word+" "+strings.Repeat("/n", 30)+" 3", "found 0 of 7")
	}
}

func TestPromise18Inc(t *testing.T) {
	wantSpoken(t,
		spoken{`insert {"_id":1,"a":3}`, "ok"}, spoken{`insert {"_id":"x","b":3}`, "ok"}, spoken{`insert {"_id":"a","a":999999999}`, "ok"},
		spoken{"inc 1 4", "ok"}, spoken{"find 1", `doc {"_id":1,"a":7}`}, spoken{"eq /a 7", "found 1 of 1"}, spoken{"eq /a 3", "found 0 of 0"},
		spoken{"inc 1 -10", "ok"}, spoken{"find 1", `doc {"_id":1,"a":-3}`}, spoken{"inc 1 0", "ok"}, spoken{"find 1", `doc {"_id":1,"a":-3}`},
		// A new name is counted up from nothing: then the index has a key more.
		spoken{"keys", "keys 2"}, spoken{`inc "x" 5`, "ok"}, spoken{`find "x"`, `doc {"_id":"x","a":5,"b":3}`}, spoken{"keys", "keys 3"},
		spoken{`inc "\u0078" 1`, "ok"}, spoken{`find "x"`, `doc {"_id":"x","a":6,"b":3}`},
		// A number of ten digits is one, as ReadValue reads it.
		spoken{`inc "a" 1`, "ok"}, spoken{`inc "a" 1`, "no 4"}, spoken{`inc "a" -1000000000`, "ok"}, spoken{`find "a"`, `doc {"_id":"a","a":0}`},
		spoken{`inc "a" 1000000000`, "ok"}, spoken{`find "a"`, `doc {"_id":"a","a":1000000000}`}, spoken{`inc "a" 1000000000`, "no 4"},
		spoken{`inc "a" -1000000000`, "ok"}, spoken{`inc "a" -1000000000`, "ok"}, spoken{`inc "a" -1`, "no 4"}, spoken{`find "a"`, `doc {"_id":"a","a":-1000000000}`})
}

func TestPromise18IncIsRefused(t *testing.T) {
	// No document of that id, be it an id or another value, whatever the second one is.
	wantEach(t, fewDocs(), "no 3", `inc 3 1`, `inc "2" 1`, `inc "" 1`, `inc [1] 1`, `inc null 1`, `inc {"_id":1} 1`, `inc 3 "x"`, `inc [] []`)
	// The second one is no number.
	wantEach(t, fewDocs(), "no 1", `inc 1 "x"`, `inc 1 null`, `inc 1 true`, `inc 1 [1]`, `inc 1 {}`, `inc 5 "1"`, `inc "x" null`)
	// What is there is no number.
	wantEach(t, fewDocs(), "no 3", `inc 5 1`, `inc "x" 1`, `inc 5 0`)
	// One of both is not read.
	wantEach(t, fewDocs(), "no 1", `inc x 1`, `inc 1 x`, `inc x x`, `inc 99 x`, `inc 1 `, `inc  1`, `inc  `, `inc "1 1`, `inc 1 01`, `inc 01 1`, `inc 1 -0`, `inc -0 1`, `inc 1 1.5`, `inc 1 +1`,
		`inc 1 1000000001`, `inc 1000000001 1`, "inc 1 1\t", "inc \t1 1", "inc 1 \x00", "inc \xff 1", `inc 1, 1`)
}

// An id and a value have no blanks within, ahead or behind: other lines are none of the document's.
func TestPromise18IncOfOtherThanTwo(t *testing.T) {
	ahead := append(fewDocs(), `insert {"_id":"a b","a":1}`)
	wantEach(t, ahead, "what", `inc`, `inc `, `inc 1`, `inc "x"`, `inc x`, `inc 1 1 1`, `inc 1 1 `, `inc 1  1`, `inc  1 1`, `inc   `, `inc "a b" 1`, `inc 1 [ 1 ]`, `inc 1 1 x`, `inc [1, 2] 1`)
	wantSaid(t, ahead, `inc "a\u0020b" 1`, "ok")
}

func TestPromise18IncOfWhatBecomesTooLarge(t *testing.T) {
	// A name more than there may be, and a byte more.
	nodes := mapOf("_id", numberTree(1)).with("b", zeros(76))
	if nodes.size() != 79 {
		t.Fatal("the test is not as it says:", nodes.size())
	}
	wantSaid(t, []string{"insert " + nodes.tidy()}, "inc 1 1", "ok")
	wantSaid(t, []string{"insert " + mapOf("_id", numberTree(1)).with("b", zeros(77)).tidy()}, "inc 1 1", "no 4")
	bytes := manyNames("b", 9, textTree(strings.Repeat("t", 22))).with("_id", numberTree(1)).with("a", numberTree(9))
	room := 300 - len(bytes.with("c", textTree("")).tidy())
	for more, answer := range map[int]string{0: "no 4", -1: "ok"} {
		full := bytes.with("c", textTree(strings.Repeat("c", room+more)))
		if len(full.tidy()) != 300+more {
			t.Fatal("the test is not as it says:", len(full.tidy()))
		}
		wantSpoken(t, spoken{"insert " + full.tidy(), "ok"}, spoken{"inc 1 -9", "ok"}, spoken{"inc 1 9", "ok"}, spoken{"inc 1 1", answer})
	}
}

func TestPromise18Keys(t *testing.T) {
	wantSpoken(t,
		spoken{"keys", "keys 0"}, spoken{`insert {"_id":1}`, "ok"}, spoken{"keys", "keys 0"},
		spoken{`insert {"_id":2,"a":5}`, "ok"}, spoken{"keys", "keys 1"}, spoken{`insert {"_id":3,"a":5}`, "ok"}, spoken{"keys", "keys 2"},
		spoken{`insert {"_id":4,"a":"t"}`, "ok"}, spoken{"keys", "keys 3"}, spoken{`insert {"_id":5,"a":[1]}`, "ok"}, spoken{`insert {"_id":6,"b":1}`, "ok"}, spoken{"keys", "keys 3"},
		spoken{`replace {"_id":2,"a":null}`, "ok"}, spoken{"keys", "keys 2"}, spoken{`replace {"_id":1,"a":1}`, "ok"}, spoken{"keys", "keys 3"}, spoken{`replace {"_id":1,"a":2}`, "ok"}, spoken{"keys", "keys 3"},
		spoken{"delete 1", "ok"}, spoken{"keys", "keys 2"}, spoken{"delete 5", "ok"}, spoken{"keys", "keys 2"}, spoken{"delete 9", "no 3"}, spoken{"keys", "keys 2"})
	wantEach(t, fewDocs(), "what", "keys ", "keys  ", "keys x", "keys 0", " keys", "Keys", "KEYS", "key", "keyss", "keys\t", "keys,")
	wantSaid(t, fewDocs(), "keys", "keys 5")
}

func TestPromise18Tidy(t *testing.T) {
	for told, text := range map[string]string{
		`1`: `1`, ` [ 1 , 2 ] `: `[1,2]`, `{"b":1,"a":2}`: `{"a":2,"b":1}`, `"\u0041\/\\"`: `"A/\\"`, `"a  b"`: `"a  b"`, `null`: `null`, `{}`: `{}`, `-1000000000`: `-1000000000`,
		strings.Repeat(" ", 299) + "1": `1`, `{"insert":1}`: `{"insert":1}`,
	} {
		wantSpoken(t, spoken{"tidy " + told, "text " + text})
	}
	wantEach(t, fewDocs(), "no", `tidy `, `tidy  `, `tidy x`, `tidy 1 2`, `tidy [1`, `tidy -0`, `tidy 1000000001`, `tidy {"a":1,"a":1}`, "tidy 1\t", "tidy \xff", "tidy \"\x01\"", "tidy "+strings.Repeat(" ", 300)+"1")
	wantEach(t, fewDocs(), "what", `tidy`, `tidy1`, `Tidy 1`, "tidy\t1", ` tidy 1`)
}

func TestPromise18Patch(t *testing.T) {
	for told, text := range map[string]string{
		`{"a":1} {"a":null,"b":2}`: `{"b":2}`, `1 2`: `2`, `{} {"a":{"b":null}}`: `{"a":{}}`, `{"b":1,"a":2} {}`: `{"a":2,"b":1}`, `[1] {"a":1}`: `{"a":1}`, `{"a":1} null`: `null`,
		`"\u0020" "\u0041\u0020"`: `"A "`, `{"a":[1]} {"a":{"c":1}}`: `{"a":{"c":1}}`,
	} {
		wantSpoken(t, spoken{"patch " + told, "text " + text})
	}
	// Neither one value, nor three, nor values with blanks within, nor more than one blank between or another one behind.
	wantEach(t, fewDocs(), "no", `patch `, `patch  `, `patch 1`, `patch {"a":1}`, `patch 1 `, `patch  1`, `patch 1 2 3`, `patch 1  2`, `patch  1 2`, `patch 1 2 `, `patch {} {} {}`,
		`patch { } {}`, `patch {} { }`, `patch {"a": 1} {}`, `patch {} {"a": 1}`, `patch "a b" 1`, `patch 1 "a b"`, `patch [1, 2] {"a":1}`,
		`patch x {}`, `patch {} x`, `patch {"a":1 {}`, `patch {} -0`, "patch {}\t{}", "patch {} {}\t", "patch \xff {}", `patch {},{}`)
	wantEach(t, nil, "what", `patch`, `patch{} {}`, `Patch {} {}`, ` patch {} {}`)
}

func TestPromise18PatchAtTheLimits(t *testing.T) {
	first := mapOf("a", zeros(38))
	for more, good := range map[int]bool{39: true, 40: false} {
		p := mapOf("b", zeros(more))
		made := first.patched(p)
		if made.sound() != good {
			t.Fatal("the test is not as it says:", made.size())
		}
		wantSpoken(t, spoken{"patch " + first.tidy() + " " + p.tidy(), textOrNo("text", made.tidy(), good)})
	}
}

func TestPromise18Words(t *testing.T) {
	for told, words := range map[string]string{
		"The cat": " the cat", "": "", " ": "", "-- !": "", "a": " a", "  A  b ": " a b", "the cat's mat, the CAT": " the cat s mat the cat", "x1-2": " x1 2", "caf\xc3\xa9s": " caf s", "\x00a\xff": " a",
		strings.Repeat("a", 45):  " " + strings.Repeat("a", 20) + " " + strings.Repeat("a", 20) + " aaaaa",
		strings.Repeat("-", 200): "", strings.Repeat("-", 199) + "z": " z", "insert {\"_id\":1}": " insert id 1",
	} {
		wantSpoken(t, spoken{"words " + told, "words" + words})
	}
	wantEach(t, nil, "no", "words "+strings.Repeat("-", 201), "words "+strings.Repeat("a ", 100)+"a")
	wantEach(t, nil, "what", "words", "word a", "Words a", "wordsa", " words a", "words\ta")
}

func TestPromise18Twice(t *testing.T) {
	for told, text := range map[string]string{
		"banana": "ana", "aa": "a", "abab": "ab", "a a": "a", "aaaa": "aaa", " a a ": " a ", "x  x": " ", "ab cd ab": "ab", "  ": " ", "\xff\xff": "\xff", "a\x00b\x00": "\x00", "bab ab": "ab",
		strings.Repeat("t", 120): strings.Repeat("t", 119), "a b  a b": "a b",
	} {
		wantSpoken(t, spoken{"twice " + told, "twice " + text})
	}
	wantEach(t, nil, "no", "twice ", "twice  ", "twice a", "twice abc", "twice "+strings.Repeat("t", 121), "twice aA")
	wantEach(t, nil, "what", "twice", "Twice aa", "twiceaa", " twice aa", "twice\taa")
}

func TestPromise18AnythingElse(t *testing.T) {
	words := []string{"insert", "replace", "delete", "find", "eq", "lt", "gt", "inc", "tidy", "patch", "words", "twice"}
	for _, word := range words {
		rest := " 1"
		if word == "eq" || word == "lt" || word == "gt" {
			rest = " /a 1"
		}
		great := strings.ToUpper(word[:1]) + word[1:]
		wantEach(t, fewDocs(), "what", word, great+rest, strings.ToUpper(word)+rest, " "+word+rest, word+"s"+rest, word[1:]+rest, word+strings.TrimPrefix(rest, " "), word+"\t1", word+"\x00"+rest, "\ufeff"+word+rest, word+":"+rest)
	}
	wantEach(t, fewDocs(), "what", "", " ", "  ", "x", "what", "ok", "no 1", "none", "doc {}", "found 1 of 1", "text 1", "has /a", "in /a [1]", "and", "not", "set 1 1", "count", "put 1", "# keys", "\x00", "\xff\xfe", "\x7f", "1", "{}", "é", strings.Repeat("x", 2000))
}

func TestPromise18TheLimitsOfTheChapter(t *testing.T) {
	if impl.MaxScript != 2500 || impl.MaxLines != 80 {
		t.Error(impl.MaxScript, impl.MaxLines)
	}
}
