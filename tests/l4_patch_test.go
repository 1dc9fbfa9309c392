package tests

import (
	"testing"

	"loop.example/g00274/impl"
)

type ofTwo func(impl.Value, impl.Value) (impl.Value, bool)

// wantOfTwo asks for what is made of two values; the empty text stands for the zero answer.
func wantOfTwo(t *testing.T, what string, call ofTwo, a string, b string, want string) {
	t.Helper()
	got, ok := call(mustRead(t, a), mustRead(t, b))
	if want == "" {
		if ok || len(got.Nodes) != 0 {
			t.Errorf("%s(%s, %s) is %v %v", what, a, b, got, ok)
		}
		return
	}
	if !ok || !sameValue(got, mustRead(t, want)) {
		text, _ := impl.ValueText(got)
		t.Errorf("%s(%s, %s) is %s %v, not %s", what, a, b, text, ok, want)
	}
}

// wantPatched asks also that the patch does nothing more when it is put again.
func wantPatched(t *testing.T, v string, p string, want string) {
	t.Helper()
	wantOfTwo(t, "ApplyPatch", impl.ApplyPatch, v, p, want)
	wantOfTwo(t, "ApplyPatch, again", impl.ApplyPatch, want, p, want)
}

// wantDiff asks also that what differs, put to the one, is the other.
func wantDiff(t *testing.T, a string, b string, want string) {
	t.Helper()
	wantOfTwo(t, "DiffOf", impl.DiffOf, a, b, want)
	if want != "" {
		wantOfTwo(t, "ApplyPatch", impl.ApplyPatch, a, want, b)
	}
}

// wantJoined asks also that the joined patch does what both do, one behind the other.
func wantJoined(t *testing.T, p string, q string, want string) {
	t.Helper()
	wantOfTwo(t, "JoinPatches", impl.JoinPatches, p, q, want)
	if want == "" {
		return
	}
	for _, v := range []string{"null", "5", "[]", "{}", `{"a":1}`, `{"a":{"x":{"k":1},"y":2,"z":[]},"b":{"x":3},"c":null}`} {
		one, _ := impl.ApplyPatch(mustRead(t, v), mustRead(t, p))
		both, ok := impl.ApplyPatch(one, mustRead(t, q))
		got, gotOk := impl.ApplyPatch(mustRead(t, v), mustRead(t, want))
		if !ok || !gotOk || !sameValue(got, both) {
			t.Errorf("%s and %s, put to %s, are %v %v; joined they are %v %v", p, q, v, both, ok, got, gotOk)
		}
	}
}

func wantClean(t *testing.T, text string, want string) {
	t.Helper()
	v := mustRead(t, text)
	if clean, ok := impl.IsClean(v); !ok || clean != (text == want) {
		t.Errorf("IsClean(%s) is %v %v", text, clean, ok)
	}
	got, ok := impl.CleanOf(v)
	if !ok || !sameValue(got, mustRead(t, want)) {
		t.Errorf("CleanOf(%s) is %v %v, not %s", text, got, ok, want)
	}
	if clean, ok := impl.IsClean(got); !ok || !clean {
		t.Errorf("IsClean of CleanOf(%s) is %v %v", text, clean, ok)
	}
}

func TestPromise4APatchThatIsNoMap(t *testing.T) {
	for _, v := range []string{"null", "false", "7", `"a"`, "[1,[2]]", "{}", `{"a":1,"b":{"c":2}}`} {
		for _, p := range []string{"null", "false", "true", "0", "-5", `"x"`, `""`, "[]", "[null]", `[1,{"a":null},[{"b":null}]]`} {
			wantPatched(t, v, p, p)
		}
	}
}

func TestPromise4NamesThatAPatchPuts(t *testing.T) {
	wantPatched(t, "{}", "{}", "{}")
	wantPatched(t, `{"a":1}`, "{}", `{"a":1}`)
	wantPatched(t, `{"a":null}`, "{}", `{"a":null}`)
	wantPatched(t, `{"a":null,"b":{"c":null}}`, `{"d":1}`, `{"a":null,"b":{"c":null},"d":1}`)
	wantPatched(t, "{}", `{"a":1}`, `{"a":1}`)
	wantPatched(t, `{"a":1}`, `{"a":1}`, `{"a":1}`)
	wantPatched(t, `{"a":1}`, `{"a":2}`, `{"a":2}`)
	wantPatched(t, `{"b":1}`, `{"a":2}`, `{"a":2,"b":1}`)
	wantPatched(t, `{"b":1}`, `{"c":2}`, `{"b":1,"c":2}`)
	wantPatched(t, `{"b":[1],"d":[2]}`, `{"a":[3],"c":[4],"e":[5]}`, `{"a":[3],"b":[1],"c":[4],"d":[2],"e":[5]}`)
	wantPatched(t, `{"a":{"b":1}}`, `{"a":2}`, `{"a":2}`)
	wantPatched(t, `{"a":{"b":1}}`, `{"a":[]}`, `{"a":[]}`)
	wantPatched(t, `{"a":{"b":1}}`, `{"a":{}}`, `{"a":{"b":1}}`)
	wantPatched(t, `{"a":{"b":1}}`, `{"a":{"c":2}}`, `{"a":{"b":1,"c":2}}`)
	wantPatched(t, `{"a":{"b":{"c":1,"d":[2]}},"e":3}`, `{"a":{"b":{"c":{"x":9}}}}`, `{"a":{"b":{"c":{"x":9},"d":[2]}},"e":3}`)
	wantPatched(t, `{"":{"":1}}`, `{"":{"":2}}`, `{"":{"":2}}`)
	wantPatched(t, `{"a":[1,2,3]}`, `{"a":{"0":9}}`, `{"a":{"0":9}}`)
	wantPatched(t, `{"a":[{"b":1}]}`, `{"a":[{"c":2}]}`, `{"a":[{"c":2}]}`)
	wantPatched(t, `{"0":1,"1":2}`, `{"0":"x"}`, `{"0":"x","1":2}`)
}

func TestPromise4ANullTakesANameAway(t *testing.T) {
	wantPatched(t, `{"a":1}`, `{"a":null}`, "{}")
	wantPatched(t, `{"a":null}`, `{"a":null}`, "{}")
	wantPatched(t, `{"a":[1,[2]],"b":3}`, `{"a":null}`, `{"b":3}`)
	wantPatched(t, `{"a":[1,[2]],"b":3}`, `{"b":null}`, `{"a":[1,[2]]}`)
	wantPatched(t, `{"a":{"b":1,"c":{"d":2}}}`, `{"a":{"c":null}}`, `{"a":{"b":1}}`)
	wantPatched(t, `{"a":{"b":1,"c":{"d":2}}}`, `{"a":{"c":{"d":null}}}`, `{"a":{"b":1,"c":{}}}`)
	wantPatched(t, `{"a":{"b":1}}`, `{"a":{"b":null}}`, `{"a":{}}`)
	wantPatched(t, "{}", `{"a":null}`, "{}")
	wantPatched(t, `{"b":1}`, `{"a":null,"c":null}`, `{"b":1}`)
	wantPatched(t, `{"a":{"b":1}}`, `{"a":{"c":null}}`, `{"a":{"b":1}}`)
	wantPatched(t, `{"a":[1]}`, `{"a":[null,{"b":null}]}`, `{"a":[null,{"b":null}]}`)
	wantPatched(t, `{"a":{"b":1}}`, `{"a":{"b":[{"c":null},null]}}`, `{"a":{"b":[{"c":null},null]}}`)
}

func TestPromise4APatchsOwnNullsDoNotStay(t *testing.T) {
	for _, v := range []string{"null", "true", "7", `"a"`, "[]", `[1,{"a":2}]`, "{}"} {
		wantPatched(t, v, "{}", "{}")
		wantPatched(t, v, `{"x":null}`, "{}")
		wantPatched(t, v, `{"x":null,"y":1}`, `{"y":1}`)
		wantPatched(t, v, `{"x":{"y":null}}`, `{"x":{}}`)
		wantPatched(t, v, `{"x":{"y":null,"z":{"w":null}}}`, `{"x":{"z":{}}}`)
		wantPatched(t, v, `{"x":[null,{"y":null}]}`, `{"x":[null,{"y":null}]}`)
	}
	for _, was := range []string{"null", "true", "7", `"a"`, "[]", `[{"y":1}]`} {
		wantPatched(t, `{"x":`+was+`}`, `{"x":{"y":null}}`, `{"x":{}}`)
		wantPatched(t, `{"x":`+was+`}`, `{"x":{"y":null,"z":1}}`, `{"x":{"z":1}}`)
		wantPatched(t, `{"x":`+was+`}`, `{"x":{"y":{"z":null}}}`, `{"x":{"y":{}}}`)
	}
	// A null that the value has had ahead of the patch is none of the patch's own.
	wantPatched(t, `{"x":{"y":null}}`, `{"x":{"z":1}}`, `{"x":{"y":null,"z":1}}`)
}

func TestPromise4WhatIsClean(t *testing.T) {
	for _, s := range []string{"null", "false", "0", `""`, "[]", "{}", "[null]", `[[null],{"a":null}]`, `[{"a":{"b":null}}]`,
		`{"a":1}`, `{"a":[null]}`, `{"a":[{"b":null}]}`, `{"a":{"b":[{"c":{"d":null}}]}}`, `{"null":"null"}`} {
		wantClean(t, s, s)
	}
	wantClean(t, `{"a":null}`, "{}")
	wantClean(t, `{"":null}`, "{}")
	wantClean(t, `{"a":null,"b":null,"c":null}`, "{}")
	wantClean(t, `{"a":null,"b":1,"c":null}`, `{"b":1}`)
	wantClean(t, `{"a":1,"b":null,"c":[2]}`, `{"a":1,"c":[2]}`)
	wantClean(t, `{"a":{"b":null}}`, `{"a":{}}`)
	wantClean(t, `{"a":{"b":{"c":null,"d":1}},"e":null}`, `{"a":{"b":{"d":1}}}`)
	wantClean(t, `{"a":null,"b":{"c":[1,[2]],"d":null},"e":[null]}`, `{"b":{"c":[1,[2]]},"e":[null]}`)
	wantClean(t, `{"a":[null,{"b":null}],"c":null}`, `{"a":[null,{"b":null}]}`)
	wantClean(t, `{"a":[{"b":[null]}],"c":{"d":null}}`, `{"a":[{"b":[null]}],"c":{}}`)
	wantClean(t, `{"a":{"b":{"c":{"d":{"e":null}}}}}`, `{"a":{"b":{"c":{"d":{}}}}}`)
}

func TestPromise4WhatDiffers(t *testing.T) {
	wantDiff(t, `{"a":1}`, `{"b":2}`, `{"a":null,"b":2}`)
	wantDiff(t, `{"b":1}`, `{"a":2}`, `{"a":2,"b":null}`)
	wantDiff(t, `{"a":1}`, "{}", `{"a":null}`)
	wantDiff(t, "{}", `{"a":1}`, `{"a":1}`)
	wantDiff(t, "{}", `{"a":{"b":[1]}}`, `{"a":{"b":[1]}}`)
	wantDiff(t, `{"a":1,"b":2}`, `{"a":1,"b":3}`, `{"b":3}`)
	wantDiff(t, `{"a":1}`, `{"a":"1"}`, `{"a":"1"}`)
	wantDiff(t, `{"a":false}`, `{"a":true}`, `{"a":true}`)
	wantDiff(t, `{"a":[1]}`, `{"a":[2]}`, `{"a":[2]}`)
	wantDiff(t, `{"a":[1,2]}`, `{"a":[1]}`, `{"a":[1]}`)
	wantDiff(t, `{"a":[{"b":1}]}`, `{"a":[{"b":1,"c":null}]}`, `{"a":[{"b":1,"c":null}]}`)
	wantDiff(t, `{"a":{"b":1}}`, `{"a":{"b":2}}`, `{"a":{"b":2}}`)
	wantDiff(t, `{"a":{"b":1,"c":2}}`, `{"a":{"b":1}}`, `{"a":{"c":null}}`)
	wantDiff(t, `{"a":{"b":1,"c":2},"d":3}`, `{"a":{"b":1,"c":4},"d":3}`, `{"a":{"c":4}}`)
	wantDiff(t, `{"a":{"b":1}}`, `{"a":{}}`, `{"a":{"b":null}}`)
	wantDiff(t, `{"a":{}}`, `{"a":[]}`, `{"a":[]}`)
	wantDiff(t, `{"a":[]}`, `{"a":{}}`, `{"a":{}}`)
	wantDiff(t, `{"a":5}`, `{"a":{"b":{"c":1}}}`, `{"a":{"b":{"c":1}}}`)
	wantDiff(t, `{"a":{"b":{"c":1}}}`, `{"a":5}`, `{"a":5}`)
	wantDiff(t, `{"a":{"b":{"c":{"d":1}}}}`, `{"a":{"b":{"c":{"e":1}}}}`, `{"a":{"b":{"c":{"d":null,"e":1}}}}`)
}

func TestPromise4DiffOfLikeValues(t *testing.T) {
	for _, s := range []string{"{}", `{"a":1}`, `{"a":[null,{"b":null}],"c":{"d":{}}}`, `{"":{"":""}}`} {
		wantDiff(t, s, s, "{}")
	}
	for _, s := range []string{"null", "true", "0", `"a"`, "[]", `[null,{"a":null}]`} {
		wantDiff(t, s, s, s)
	}
}

func TestPromise4DiffWhereOneIsNoMap(t *testing.T) {
	others := []string{"null", "false", "3", `"a"`, "[]", `[null,{"a":null}]`}
	for _, a := range append([]string{"{}", `{"a":1,"b":null}`}, others...) {
		for _, b := range others {
			wantDiff(t, a, b, b)
		}
	}
	for _, a := range others {
		for _, b := range []string{"{}", `{"a":1}`, `{"a":{"b":[null]}}`} {
			wantDiff(t, a, b, b)
		}
	}
}

func TestPromise4DiffWhereTheSecondHasANull(t *testing.T) {
	for _, a := range []string{"null", "1", "[]", "{}", `{"a":null}`, `{"a":{"b":null}}`, `{"a":1,"b":2}`} {
		for _, b := range []string{`{"a":null}`, `{"a":1,"b":null}`, `{"a":{"b":null}}`, `{"a":{"b":1,"c":{"d":null}}}`} {
			wantDiff(t, a, b, "")
			wantDiff(t, b, b, "")
		}
	}
}

func TestPromise4DiffWhereTheFirstHasNulls(t *testing.T) {
	wantDiff(t, `{"a":null}`, "{}", `{"a":null}`)
	wantDiff(t, `{"a":null}`, `{"a":1}`, `{"a":1}`)
	wantDiff(t, `{"a":null}`, `{"a":{"b":1}}`, `{"a":{"b":1}}`)
	wantDiff(t, `{"a":null,"b":1}`, `{"b":1}`, `{"a":null}`)
	wantDiff(t, `{"a":{"b":null,"c":1}}`, `{"a":{"c":1}}`, `{"a":{"b":null}}`)
	wantDiff(t, `{"a":{"b":null,"c":1}}`, `{"a":{"b":{},"c":1}}`, `{"a":{"b":{}}}`)
	wantDiff(t, `{"a":[null]}`, `{"a":[]}`, `{"a":[]}`)
}

func TestPromise4JoinedPatches(t *testing.T) {
	wantJoined(t, "{}", "{}", "{}")
	wantJoined(t, `{"a":1}`, "{}", `{"a":1}`)
	wantJoined(t, "{}", `{"a":1}`, `{"a":1}`)
	wantJoined(t, `{"a":null}`, "{}", `{"a":null}`)
	wantJoined(t, "{}", `{"a":null}`, `{"a":null}`)
	wantJoined(t, "{}", `{"a":{"x":null,"y":{}}}`, `{"a":{"x":null,"y":{}}}`)
	wantJoined(t, `{"a":{"x":null,"y":{}}}`, "{}", `{"a":{"x":null,"y":{}}}`)
	wantJoined(t, `{"a":1,"c":2}`, `{"b":3,"d":4}`, `{"a":1,"b":3,"c":2,"d":4}`)
	wantJoined(t, `{"b":[3],"d":{"x":4}}`, `{"a":[1],"c":{"y":null}}`, `{"a":[1],"b":[3],"c":{"y":null},"d":{"x":4}}`)
	wantJoined(t, `{"a":1}`, `{"a":2}`, `{"a":2}`)
	wantJoined(t, `{"a":1}`, `{"a":null}`, `{"a":null}`)
	wantJoined(t, `{"a":null}`, `{"a":1}`, `{"a":1}`)
	wantJoined(t, `{"a":null}`, `{"a":null}`, `{"a":null}`)
	wantJoined(t, `{"a":{"x":1}}`, `{"a":5}`, `{"a":5}`)
	wantJoined(t, `{"a":{"x":1}}`, `{"a":null}`, `{"a":null}`)
	wantJoined(t, `{"a":{"x":1}}`, `{"a":[null,{"y":null}]}`, `{"a":[null,{"y":null}]}`)
	wantJoined(t, `{"a":{"x":1}}`, `{"a":{}}`, `{"a":{"x":1}}`)
	wantJoined(t, `{"a":{"x":1}}`, `{"a":{"x":null}}`, `{"a":{"x":null}}`)
	wantJoined(t, `{"a":{"x":null}}`, `{"a":{"y":null}}`, `{"a":{"x":null,"y":null}}`)
	wantJoined(t, `{"a":{"x":{"k":1},"y":2}}`, `{"a":{"x":{"k":null,"l":[]}}}`, `{"a":{"x":{"k":null,"l":[]},"y":2}}`)
}

func TestPromise4JoinWhereTheSecondIsNoMap(t *testing.T) {
	for _, p := range []string{"null", "1", `"a"`, "[]", "{}", `{"a":null}`, `{"a":{"b":1}}`} {
		for _, q := range []string{"null", "true", "-3", `"x"`, "[]", `[null,{"a":null}]`} {
			wantJoined(t, p, q, q)
		}
	}
}

func TestPromise4JoinOfAMapToSomethingElse(t *testing.T) {
	for _, p := range []string{"null", "false", "true", "1", `"a"`, "[]", `[{"a":1}]`} {
		for _, q := range []string{"{}", `{"a":1}`, `{"a":null}`} {
			wantJoined(t, p, q, "")
			wantJoined(t, `{"a":`+p+`}`, `{"a":`+q+`}`, "")
			wantJoined(t, `{"a":{"b":`+p+`},"c":1}`, `{"a":{"b":`+q+`}}`, "")
			wantJoined(t, `{"a":1,"b":`+p+`,"c":2}`, `{"a":3,"b":`+q+`,"c":4}`, "")
			// Beside each other they do not meet, and within a list they are parts alone.
			wantJoined(t, `{"a":`+p+`}`, `{"b":`+q+`}`, `{"a":`+p+`,"b":`+q+`}`)
			wantJoined(t, `{"a":[`+p+`]}`, `{"a":[`+q+`]}`, `{"a":[`+q+`]}`)
		}
	}
}
