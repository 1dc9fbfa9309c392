package tests

import (
	"slices"
	"strings"
	"testing"

	"loop.example/g00274/impl"
)

// wantNoTreap asks each function of the chapter that takes a treap for its answer where that is not good.
func wantNoTreap(t *testing.T, what string, bad impl.Treap) {
	t.Helper()
	if impl.GoodTreap(bad) {
		t.Errorf("%s: GoodTreap", what)
	}
	keys := []string{"", "a", "z", "new", strings.Repeat("k", 41)}
	if len(bad.Limbs) > 0 {
		keys = append(keys, bad.Limbs[len(bad.Limbs)-1].Key)
	}
	for _, key := range keys {
		wantNoKeyIn(t, what, bad, key)
	}
	for _, other := range []impl.Treap{{}, treapOf("a"), treapOf("\x00"), treapOf("\xff\xff"), bad} {
		got, ok := impl.JoinTreaps(bad, other)
		wantZeroTreap(t, what+": JoinTreaps, ahead", got, ok)
		got, ok = impl.JoinTreaps(other, bad)
		wantZeroTreap(t, what+": JoinTreaps, behind", got, ok)
	}
	if deep, ok := impl.DeepIn(bad); deep != 0 || ok {
		t.Errorf("%s: DeepIn is %d %v", what, deep, ok)
	}
}

func wantNoKeyIn(t *testing.T, what string, bad impl.Treap, key string) {
	t.Helper()
	got, ok := impl.PutKey(bad, key, "v")
	wantZeroTreap(t, what+": PutKey", got, ok)
	if v, looks, ok := impl.GetKey(bad, key); v != "" || looks != 0 || ok {
		t.Errorf("%s: GetKey is %q %d %v", what, v, looks, ok)
	}
	got, ok = impl.CutKey(bad, key)
	wantZeroTreap(t, what+": CutKey", got, ok)
	for _, to := range []string{"", "b", "\xff"} {
		if keys, ok := impl.KeysFrom(bad, key, to); len(keys) != 0 || ok {
			t.Errorf("%s: KeysFrom is %q %v", what, keys, ok)
		}
	}
	low, high, ok := impl.SplitTreap(bad, key)
	wantZeroTreap(t, what+": SplitTreap", low, ok)
	wantZeroTreap(t, what+": SplitTreap", high, ok)
}

func TestPromise19LimbsOfAnyNumbers(t *testing.T) {
	base := treapOf("m", "a", "z", "k", "pb", "ozac").Limbs
	numbers := []int{least, least + 1, -1 << 32, -1000, -2, -1, 0, 1, 2, 3, 4, 5, 6, 7, 60, 61, 1000, 1 << 32, greatest - 1, greatest}
	for k := range base {
		for _, left := range numbers {
			for _, right := range numbers {
				made := impl.Treap{Limbs: slices.Clone(base)}
				made.Limbs[k].Left, made.Limbs[k].Right = left, right
				if left != base[k].Left || right != base[k].Right {
					wantNoTreap(t, "any numbers", made)
				}
			}
		}
	}
}

func TestPromise19RingsOfLimbs(t *testing.T) {
	for _, many := range []int{1, 2, 3, 59, 60, 61, 1000} {
		keys := manyKeys(many)
		ring, back := make([]impl.Limb, many), make([]impl.Limb, many)
		same, crossed := make([]impl.Limb, many), make([]impl.Limb, many)
		for k, key := range keys {
			ring[k] = limb(key, -1, (k+1)%many)
			back[k] = limb(key, (k+many-1)%many, -1)
			same[k] = limb("k", k, k)
			crossed[k] = limb(key, (k+1)%many, (k+1)%many)
		}
		for _, limbs := range [][]impl.Limb{ring, back, same, crossed, make([]impl.Limb, many)} {
			wantNoTreap(t, "a ring", impl.Treap{Limbs: limbs})
		}
	}
}

func TestPromise19AnyTextsAsKeysAndValues(t *testing.T) {
	texts := []string{"", "a", strings.Repeat("a", 40), strings.Repeat("a", 41), strings.Repeat("a", 60), strings.Repeat("a", 61), strings.Repeat("\xff", 100000)}
	for c := range 256 {
		texts = append(texts, string([]byte{byte(c)}))
	}
	for _, p := range []pairs{nil, pairsOf("a"), pairsOf("m", "\x80", "\xff"), pairsOf(manyKeys(59)...)} {
		for _, key := range texts {
			isKey := len(key) >= 1 && len(key) <= 40
			for _, value := range []string{"", "v", strings.Repeat("v", 60), strings.Repeat("v", 61)} {
				got, ok := impl.PutKey(p.treap(), key, value)
				if !isKey || len(value) > 60 {
					wantZeroTreap(t, "PutKey", got, ok)
				} else {
					wantTreap(t, "PutKey", got, ok, p.with(key, value).treap())
				}
			}
			low, high, ok := impl.SplitTreap(p.treap(), key)
			if isKey {
				wantTreap(t, "SplitTreap", low, ok, p.between("", key, true).treap())
				wantTreap(t, "SplitTreap", high, ok, p.between(key, "", false).treap())
			} else {
				wantZeroTreap(t, "SplitTreap", low, ok)
				wantZeroTreap(t, "SplitTreap", high, ok)
			}
			wantKeys(t, p, key, "")
			wantKeys(t, p, "", key)
			if _, _, ok := impl.GetKey(p.treap(), key); ok != p.has(key) {
				t.Errorf("GetKey(%q) is %v", key, ok)
			}
			if _, ok := impl.CutKey(p.treap(), key); ok != p.has(key) {
				t.Errorf("CutKey(%q) is %v", key, ok)
			}
		}
	}
}

// treapCalls tell all that answer treaps.
func treapCalls() map[string]func(a impl.Treap, b impl.Treap, key string) []impl.Treap {
	one := func(made impl.Treap, _ bool) []impl.Treap { return []impl.Treap{made} }
	return map[string]func(a impl.Treap, b impl.Treap, key string) []impl.Treap{
		"PutKey": func(a impl.Treap, _ impl.Treap, key string) []impl.Treap { return one(impl.PutKey(a, key, "put")) },
		"CutKey": func(a impl.Treap, _ impl.Treap, key string) []impl.Treap { return one(impl.CutKey(a, key)) },
		"SplitTreap": func(a impl.Treap, _ impl.Treap, key string) []impl.Treap {
			low, high, _ := impl.SplitTreap(a, key)
			return []impl.Treap{low, high}
		},
		"JoinTreaps": func(a impl.Treap, b impl.Treap, _ string) []impl.Treap { return one(impl.JoinTreaps(a, b)) },
		"JoinTreaps, turned": func(a impl.Treap, b impl.Treap, _ string) []impl.Treap {
			return one(impl.JoinTreaps(b, a))
		},
	}
}

func cloneTreaps(l []impl.Treap) []impl.Treap {
	var made []impl.Treap
	for _, x := range l {
		made = append(made, impl.Treap{Limbs: slices.Clone(x.Limbs)})
	}
	return made
}

// spoilTreap writes over all of a treap's memory, also behind its length.
func spoilTreap(x impl.Treap) {
	all := x.Limbs[:cap(x.Limbs)]
	for k := range all {
		all[k] = impl.Limb{Key: "spoilt", Value: "spoilt", Left: 77, Right: 78}
	}
}

func wantNothingBehindTreap(t *testing.T, what string, x impl.Treap) {
	t.Helper()
	for _, l := range x.Limbs[len(x.Limbs):cap(x.Limbs)] {
		if l != (impl.Limb{}) {
			t.Errorf("%s: behind the answer lies %v", what, l)
		}
	}
}

// behindLimbs lays limbs into memory in which others lie behind their length.
func behindLimbs(limbs []impl.Limb) ([]impl.Limb, impl.Treap) {
	memory := slices.Concat(limbs, []impl.Limb{limb("behind", -1, -1), {Key: "zz", Value: "far behind", Left: 5, Right: 6}})
	return memory, impl.Treap{Limbs: memory[:len(limbs)]}
}

func TestPromise19TreapsStayAsTheyWere(t *testing.T) {
	all := brokenTreaps()
	delete(all, "many limbs too many")
	all["none"] = nil
	all["one"] = treapOf("m").Limbs
	all["some"] = treapOf("m", "a", "z", "k", "pb", "ozac").Limbs
	all["sixty"] = treapOf(manyKeys(60)...).Limbs
	for what, limbs := range all {
		for _, second := range [][]impl.Limb{nil, treapOf("\x00").Limbs, treapOf("zzz", "zzy").Limbs, limbsWith(0, limb("z", -1, 1))} {
			for _, key := range []string{"a", "m", "new", "", "k1030", "behind"} {
				wantUntouched(t, what, limbs, second, key)
			}
		}
	}
}

// wantUntouched asks for arguments that stay as they were, also behind their lengths, and for the same answers whatever lies there.
func wantUntouched(t *testing.T, what string, limbs []impl.Limb, second []impl.Limb, key string) {
	t.Helper()
	memory, arg := behindLimbs(limbs)
	other, otherArg := behindLimbs(second)
	bare, bareOther := impl.Treap{Limbs: slices.Clip(slices.Clone(limbs))}, impl.Treap{Limbs: slices.Clip(slices.Clone(second))}
	for name, call := range treapCalls() {
		got, want := call(arg, otherArg, key), call(bare, bareOther, key)
		if !slices.EqualFunc(got, want, sameTreap) {
			t.Errorf("%s: %s reads what lies behind the length: %v, not %v", what, name, got, want)
		}
		for _, x := range got {
			wantNothingBehindTreap(t, what+": "+name, x)
			spoilTreap(x)
		}
	}
	wantSameLooks(t, what, arg, bare, key)
	wantMemory(t, what, memory, limbs)
	wantMemory(t, what, other, second)
}

func wantSameLooks(t *testing.T, what string, arg impl.Treap, bare impl.Treap, key string) {
	t.Helper()
	if impl.GoodTreap(arg) != impl.GoodTreap(bare) {
		t.Errorf("%s: GoodTreap reads what lies behind the length", what)
	}
	v, looks, ok := impl.GetKey(arg, key)
	if w, wantLooks, wantOk := impl.GetKey(bare, key); v != w || looks != wantLooks || ok != wantOk {
		t.Errorf("%s: GetKey reads what lies behind the length", what)
	}
	deep, ok := impl.DeepIn(arg)
	if wantDeep, wantOk := impl.DeepIn(bare); deep != wantDeep || ok != wantOk {
		t.Errorf("%s: DeepIn reads what lies behind the length", what)
	}
	keys, ok := impl.KeysFrom(arg, "b", key)
	if wantKeys, wantOk := impl.KeysFrom(bare, "b", key); !slices.Equal(keys, wantKeys) || ok != wantOk {
		t.Errorf("%s: KeysFrom reads what lies behind the length", what)
	}
	for _, behind := range keys[len(keys):cap(keys)] {
		if behind != "" {
			t.Errorf("%s: behind the keys lies %q", what, behind)
		}
	}
}

func wantMemory(t *testing.T, what string, memory []impl.Limb, limbs []impl.Limb) {
	t.Helper()
	if want, _ := behindLimbs(limbs); !slices.Equal(memory, want) {
		t.Errorf("%s: written into: %v, not %v", what, memory, want)
	}
}

func TestPromise19TreapAnswersShareNothing(t *testing.T) {
	for _, keys := range [][]string{nil, {"m"}, {"m", "a", "z", "k", "pb", "ozac"}, manyKeys(60)} {
		for _, key := range []string{"a", "m", "new", "zz", "k1030", ""} {
			for name, call := range treapCalls() {
				a, b := treapOf(keys...), treapOf()
				if len(keys) < 60 {
					b = treapOf("zzy", "zzz")
				}
				first := call(a, b, key)
				want := cloneTreaps(first)
				second := call(a, b, key)
				for k := range second {
					spoilTreap(second[k])
					if !slices.EqualFunc(second[k+1:], want[k+1:], sameTreap) {
						t.Errorf("%s: two lists of one answer share memory: %v", name, second)
					}
				}
				if !slices.EqualFunc(first, want, sameTreap) || !slices.EqualFunc(call(a, b, key), want, sameTreap) {
					t.Errorf("%s at %q: answers share memory: %v, not %v", name, key, first, want)
				}
				if !sameTreap(a, treapOf(keys...)) {
					t.Errorf("%s at %q: an argument changed with an answer: %v", name, key, a)
				}
				spoilTreap(a)
				spoilTreap(b)
				if !slices.EqualFunc(first, want, sameTreap) {
					t.Errorf("%s at %q: an answer changed with an argument: %v", name, key, first)
				}
			}
		}
	}
}

func TestPromise19KeysThatAreToldShareNothing(t *testing.T) {
	a := treapOf("m", "a", "z", "k")
	first, _ := impl.KeysFrom(a, "", "")
	second, _ := impl.KeysFrom(a, "", "")
	scribbled := first[:cap(first)]
	for k := range scribbled {
		scribbled[k] = "spoilt"
	}
	third, _ := impl.KeysFrom(a, "", "")
	spoilTreap(a)
	for _, keys := range [][]string{second, third} {
		if !slices.Equal(keys, []string{"a", "k", "m", "z"}) {
			t.Errorf("the keys changed: %q", keys)
		}
	}
}
