package tests

import (
	"slices"
	"strconv"
	"testing"

	"loop.example/g00274/impl"
)

// wantAll asks for what all acts make together, want being told as a text.
func wantAll(t *testing.T, text string, want string, l ...impl.Act) {
	t.Helper()
	wantActs(t, mustRead(t, text), l, mustRead(t, want), len(l), impl.UpdateOk)
}

// wantBrokenOff asks for the value as it was at the beginning.
func wantBrokenOff(t *testing.T, text string, done int, code int, l ...impl.Act) {
	t.Helper()
	v := mustRead(t, text)
	wantActs(t, v, l, v, done, code)
}

func TestPromise6ActsOneByOne(t *testing.T) {
	wantAll(t, `{"a":1,"l":[2]}`, `{"a":5,"z":[3]}`, inc("/a", 4), push("/l", "3"), pull("/l", "2"), rename("/l", "z"), unset("/none"))
	// Each one sees what those ahead of it have made, and nothing of those behind it.
	wantAll(t, "{}", `{"b":{"c":[3]}}`, set("/a", "{}"), inc("/a/c", 7), unset("/a/c"), push("/a/c", "3"), rename("/a", "b"))
	wantAll(t, `{"a":1,"b":2}`, `{"a":2,"b":1}`, rename("/a", "c"), rename("/b", "a"), rename("/c", "b"))
	wantAll(t, `{"a":1,"b":2}`, `{"a":1}`, rename("/a", "b"), rename("/b", "a"))
	wantAll(t, `{"a":1}`, `{"a":2}`, set("/a", "5"), set("/a", "2"))
	wantAll(t, `{"a":1}`, `{"a":5}`, set("/a", "2"), set("/a", "5"))
	wantAll(t, `{"l":[1]}`, `{"l":[1,2,3]}`, push("/l", "2"), push("/l", "3"))
	wantAll(t, `{"l":[1]}`, `{"l":[1,3]}`, push("/l", "2"), pull("/l", "2"), push("/l", "3"))
	wantAll(t, "[]", "[1,2,9]", set("/0", "1"), set("/1", "2"), set("/2", "4"), inc("/2", 5))
	wantAll(t, `{"a":1000000000}`, `{"a":999999999}`, inc("/a", -2), inc("/a", 1))
}

func TestPromise6NoneOfThemIsDone(t *testing.T) {
	text := `{"a":1,"l":[2,{"x":3}],"m":{}}`
	good := []impl.Act{inc("/a", 4), push("/l", "9"), unset("/m"), rename("/l", "z"), set("/n", "[]")}
	fault := map[int]impl.Act{
		impl.UpdateBad:   {Kind: impl.ActSet, Path: "", Value: impl.NumberOf(1)},
		impl.UpdatePath:  set("/q/r", "1"),
		impl.UpdateKind:  push("/a", "1"),
		impl.UpdateLarge: set("/a", zeros(79).tidy()),
	}
	for code, a := range fault {
		for k := range len(good) + 1 {
			wantBrokenOff(t, text, k, code, slices.Insert(slices.Clone(good), k, a)...)
		}
		// The first one with a code counts, whatever codes come behind it.
		for _, b := range fault {
			wantBrokenOff(t, text, 2, code, good[0], good[1], a, good[2], b)
		}
	}
	// What is refused at the beginning may be done behind others, and the other way round.
	wantBrokenOff(t, text, 0, impl.UpdatePath, inc("/l/2", 1), push("/l", "9"))
	wantAll(t, text, `{"a":1,"l":[2,{"x":3},10],"m":{}}`, push("/l", "9"), inc("/l/2", 1))
	wantBrokenOff(t, text, 1, impl.UpdatePath, rename("/a", "b"), rename("/a", "c"))
	wantBrokenOff(t, text, 1, impl.UpdateKind, set("/a", `"1"`), inc("/a", 1))
	wantBrokenOff(t, `{"a":999999999}`, 1, impl.UpdateLarge, inc("/a", 1), inc("/a", 1), inc("/a", -2))
}

func TestPromise6HowManyActs(t *testing.T) {
	v := mustRead(t, `{"a":0}`)
	for _, text := range []string{"null", "7", "[]", `[1,[2]]`, `{"a":0}`} {
		wantAll(t, text, text)
		wantActs(t, mustRead(t, text), []impl.Act{}, mustRead(t, text), 0, impl.UpdateOk)
	}
	for many := range 13 {
		l := slices.Repeat([]impl.Act{inc("/a", 1)}, many)
		wantAll(t, `{"a":0}`, `{"a":`+strconv.Itoa(many)+`}`, l...)
	}
	last := append(slices.Repeat([]impl.Act{inc("/a", 1)}, 11), inc("/x/y", 1))
	wantBrokenOff(t, `{"a":0}`, 11, impl.UpdatePath, last...)
	for _, many := range []int{13, 14, 100, 100000} {
		for _, a := range []impl.Act{inc("/a", 1), unset("/none"), inc("/x/y", 1), {}} {
			l := slices.Repeat([]impl.Act{a}, many)
			if got, done, code := impl.DoActs(v, l); code != impl.UpdateBad || done != 0 || !sameValue(got, v) {
				t.Errorf("DoActs of %d acts is %v %d %d", many, got, done, code)
			}
			if got, ok := impl.PostImage(v, l); ok || len(got.Nodes) != 0 {
				t.Errorf("PostImage of %d acts is %v %v", many, got, ok)
			}
		}
	}
}

func TestPromise6PostImage(t *testing.T) {
	text := `{"a":1,"l":[2]}`
	for _, c := range []struct {
		want string
		l    []impl.Act
	}{
		{text, nil},
		{`{"a":3,"l":[2]}`, []impl.Act{inc("/a", 2)}},
		{`{"b":3}`, []impl.Act{inc("/a", 2), rename("/a", "b"), unset("/l")}},
		{text, []impl.Act{push("/l", "3"), pull("/l", "3")}},
		{"", []impl.Act{inc("/a", 2), inc("/l", 2)}},
		{"", []impl.Act{inc("/l/7", 2)}},
		{"", []impl.Act{inc("/a", 1000000000)}},
		{"", []impl.Act{inc("/a", 2), {}}},
	} {
		got, ok := impl.PostImage(mustRead(t, text), c.l)
		if c.want == "" {
			if ok || len(got.Nodes) != 0 {
				t.Errorf("PostImage(%v) is %v %v", c.l, got, ok)
			}
		} else if !ok || !sameValue(got, mustRead(t, c.want)) {
			t.Errorf("PostImage(%v) is %v %v, not %s", c.l, got, ok, c.want)
		}
	}
}

func wantSteady(t *testing.T, text string, a impl.Act, want bool) {
	t.Helper()
	if steady, ok := impl.IsSteady(mustRead(t, text), a); !ok || steady != want {
		t.Errorf("IsSteady(%s, %s) is %v %v", text, actText(a), steady, ok)
	}
}

func TestPromise6IsSteady(t *testing.T) {
	text := `{"a":1,"l":[2,3,2],"m":{"x":0}}`
	for _, a := range []impl.Act{set("/a", "9"), set("/new", "9"), set("/l/0", "[]"), unset("/a"), unset("/none"), inc("/a", 0), inc("/new", 0),
		pull("/l", "2"), pull("/l", "7"), pull("/none", "7"), rename("/a", "a"), set("/l/3", "9")} {
		wantSteady(t, text, a, true)
	}
	for _, a := range []impl.Act{inc("/a", 1), inc("/a", -1), inc("/new", 5), inc("/l/0", 1), push("/l", "9"), push("/l", "2"), push("/new", "9"),
		push("/new", "[]")} {
		wantSteady(t, text, a, false)
	}
	for _, a := range []impl.Act{set("/q/r", "1"), set("/l/4", "1"), unset("/l/0"), inc("/m", 0), inc("/l/3", 0), push("/a", "1"), pull("/a", "1"),
		pull("/l/0", "1"), rename("/none", "z"), rename("/l/0", "z"), inc("/a", 1000000000), {}, {Kind: impl.ActSet, Path: "/a"}} {
		if steady, ok := impl.IsSteady(mustRead(t, text), a); ok || steady {
			t.Errorf("IsSteady(%s) is %v %v", actText(a), steady, ok)
		}
	}
}

// Where it is done once and refused then, the second time the value is as it was: the same.
func TestPromise6SteadyWhereItCannotBeDoneAgain(t *testing.T) {
	wantSteady(t, `{"a":1,"b":2}`, rename("/a", "c"), true)
	wantSteady(t, `{"a":1,"b":2}`, rename("/a", "b"), true)
	wantSteady(t, `{"a":999999999}`, inc("/a", 1), true)
	wantSteady(t, mapOf("l", zeros(77)).tidy(), push("/l", "1"), true)
	wantSteady(t, mapOf("l", zeros(76)).tidy(), push("/l", "1"), false)
}
