package tests

import (
	"slices"
	"strings"
	"testing"

	"loop.example/g00274/impl"
)

func TestPromise7WeightsByTheRule(t *testing.T) {
	every := ""
	for b := range 256 {
		every += string([]byte{byte(b)})
	}
	for key, want := range map[string]int{
		"": 612013, "a": 441858, "k": 521048, "m": 473534, "z": 655671, "\x00": 196369, "\x80": 182740, "\xff": 602447, "abc": 571784,
		"documents that are found": 880587, "\xe4\xbd\xa0": 372034, strings.Repeat("a", 40): 58769, every: 993711,
		strings.Repeat("\xff", 1000): 255696, "xirf": 2, "dutf": 1000002,
	} {
		if got := impl.WeightOf(key); got != want {
			t.Errorf("WeightOf(%q) is %d, not %d", key, got, want)
		}
	}
	d := &dice{state: 71}
	for range 2000 {
		key := ""
		for range d.below(90) {
			key += string([]byte{byte(d.below(256))})
		}
		if got, want := impl.WeightOf(key), oracleWeight(key); got != want {
			t.Errorf("WeightOf(%q) is %d, not %d", key, got, want)
		}
	}
	long := strings.Repeat("long \xe9", 300000)
	if got, want := impl.WeightOf(long), oracleWeight(long); got != want {
		t.Errorf("WeightOf a long text is %d, not %d", got, want)
	}
}

func TestPromise7LimbsWrittenOut(t *testing.T) {
	want := impl.Treap{Limbs: []impl.Limb{
		{Key: "z", Value: "vz", Left: 1, Right: -1},
		{Key: "k", Value: "vk", Left: 2, Right: 3},
		{Key: "a", Value: "va", Left: -1, Right: -1},
		{Key: "m", Value: "vm", Left: -1, Right: -1},
	}}
	got := impl.Treap{}
	for _, key := range []string{"m", "a", "z", "k"} {
		got, _ = impl.PutKey(got, key, "v"+key)
	}
	wantTreap(t, "four keys", got, true, want)
	one, ok := impl.PutKey(impl.Treap{}, "a", "")
	wantTreap(t, "one key", one, ok, impl.Treap{Limbs: []impl.Limb{{Key: "a", Left: -1, Right: -1}}})
}

// eachOrder tells all orders of a list.
func eachOrder(p pairs, tell func(pairs)) {
	if len(p) == 0 {
		tell(nil)
		return
	}
	for k := range p {
		eachOrder(slices.Concat(p[:k], p[k+1:]), func(rest pairs) { tell(slices.Concat(pairs{p[k]}, rest)) })
	}
}

func TestPromise7OneShapeInEveryOrder(t *testing.T) {
	for _, keys := range [][]string{{"a", "b", "c", "d", "e"}, {"pb", "ozac", "pc", "ozab", "p"}, {"dutf", "yyzf", "a", "xirf", "z"}, {"a", "aa", "aaa", "a\x00", "\xff"}} {
		p := pairsOf(keys...)
		eachOrder(p, func(order pairs) {
			wantTreap(t, "an order", mustPut(t, order), true, p.treap())
		})
	}
	d := &dice{state: 72}
	for range 60 {
		p := d.pairs(60)
		for range 4 {
			wantTreap(t, "some order", mustPut(t, d.shuffled(p)), true, p.treap())
		}
	}
	most := pairsOf(manyKeys(60)...)
	wantTreap(t, "sixty, rising", mustPut(t, most), true, most.treap())
	slices.Reverse(most)
	wantTreap(t, "sixty, falling", mustPut(t, most), true, pairsOf(manyKeys(60)...).treap())
}

func TestPromise7PutAndCutAgainIsAsItWas(t *testing.T) {
	d := &dice{state: 73}
	for range 400 {
		p := d.pairs(59)
		key := d.key()
		if p.has(key) {
			continue
		}
		made := p.treap()
		more, ok := impl.PutKey(made, key, "new")
		wantTreap(t, "put", more, ok, p.with(key, "new").treap())
		less, ok := impl.CutKey(more, key)
		wantTreap(t, "cut again", less, ok, made)
	}
}

func TestPromise7CutAndPutAgainIsAsItWas(t *testing.T) {
	p := pairsOf(manyKeys(60)...)
	for _, x := range p {
		less, ok := impl.CutKey(p.treap(), x.key)
		wantTreap(t, "cut "+x.key, less, ok, p.without(x.key).treap())
		more, ok := impl.PutKey(less, x.key, x.value)
		wantTreap(t, "put again "+x.key, more, ok, p.treap())
	}
}

func TestPromise7OfTheSameWeightTheLesserKeyIsAbove(t *testing.T) {
	for _, two := range [][]string{{"ozac", "pb"}, {"ozab", "pc"}, {"dutf", "yyzf"}} {
		less, more := two[0], two[1]
		if impl.WeightOf(less) != impl.WeightOf(more) {
			t.Fatalf("%s and %s do not weigh the same", less, more)
		}
		want := impl.Treap{Limbs: []impl.Limb{{Key: less, Value: "v" + less, Left: -1, Right: 1}, {Key: more, Value: "v" + more, Left: -1, Right: -1}}}
		wantTreap(t, "the lesser first", mustPut(t, pairs{{less, "v" + less}, {more, "v" + more}}), true, want)
		wantTreap(t, "the greater first", mustPut(t, pairs{{more, "v" + more}, {less, "v" + less}}), true, want)
		wrong := impl.Treap{Limbs: []impl.Limb{{Key: more, Value: "v" + more, Left: 1, Right: -1}, {Key: less, Value: "v" + less, Left: -1, Right: -1}}}
		wantNoTreap(t, "the greater above", wrong)
		a, b, ok := impl.SplitTreap(want, more)
		wantTreap(t, "the lesser alone", a, ok, treapOf(less))
		wantTreap(t, "the greater alone", b, ok, treapOf(more))
		back, ok := impl.JoinTreaps(a, b)
		wantTreap(t, "joined", back, ok, want)
	}
}

func TestPromise7SixtyOfTheSameWeight(t *testing.T) {
	keys := alikeKeys(60, 123456)
	if len(keys) != 60 || impl.WeightOf(keys[0]) != 123456 || impl.WeightOf(keys[59]) != 123456 {
		t.Fatalf("no such keys: %v", keys)
	}
	p := pairsOf(keys...)
	d := &dice{state: 74}
	made := mustPut(t, d.shuffled(p))
	wantTreap(t, "sixty that weigh the same", made, true, p.treap())
	if deep, ok := impl.DeepIn(made); deep != 60 || !ok {
		t.Errorf("DeepIn is %d %v", deep, ok)
	}
	for k, l := range made.Limbs {
		if l.Key != keys[k] || l.Left != -1 || l.Right != k+1 && k < 59 {
			t.Errorf("limb %d is %v", k, l)
		}
	}
	for k, key := range keys {
		if v, looks, ok := impl.GetKey(made, key); v != "v"+key || looks != k+1 || !ok {
			t.Errorf("GetKey(%q) is %q %d %v", key, v, looks, ok)
		}
		less, ok := impl.CutKey(made, key)
		wantTreap(t, "without "+key, less, ok, p.without(key).treap())
		low, high, ok := impl.SplitTreap(made, key)
		back, joined := impl.JoinTreaps(low, high)
		wantTreap(t, "split and joined at "+key, back, ok && joined, made)
	}
}

func TestPromise7PutOfAKeyThatIsThere(t *testing.T) {
	p := pairsOf("m", "a", "z", "k", "pb", "ozac")
	for _, x := range p {
		for _, value := range []string{"", "other", x.value, strings.Repeat("\xff", 60)} {
			got, ok := impl.PutKey(p.treap(), x.key, value)
			wantTreap(t, "put "+x.key, got, ok, p.with(x.key, value).treap())
			for k, l := range p.treap().Limbs {
				if g := got.Limbs[k]; g.Key != l.Key || g.Left != l.Left || g.Right != l.Right || l.Key != x.key && g.Value != l.Value {
					t.Errorf("put %q: limb %d is %v, not %v", x.key, k, g, l)
				}
			}
		}
	}
}

func TestPromise7PutAtTheLimitsOfBytes(t *testing.T) {
	for _, p := range []pairs{nil, pairsOf("m", "a"), {{strings.Repeat("k", 40), "v"}}} {
		key, value := strings.Repeat("k", 40), strings.Repeat("v", 60)
		for _, x := range []pair{{key, value}, {"k", value}, {key, ""}, {"\x00", "\x00"}, {strings.Repeat("\xff", 40), strings.Repeat("\xff", 60)}} {
			got, ok := impl.PutKey(p.treap(), x.key, x.value)
			wantTreap(t, "put "+x.key, got, ok, p.with(x.key, x.value).treap())
		}
		for _, x := range []pair{{key + "k", "v"}, {"k", value + "v"}, {key + "k", value + "v"}, {"", "v"}, {"", ""}, {"m", value + "v"}, {strings.Repeat("k", 1000000), "v"}, {"k", strings.Repeat("v", 1000000)}} {
			got, ok := impl.PutKey(p.treap(), x.key, x.value)
			wantZeroTreap(t, "put of too long or no key", got, ok)
		}
	}
}

func TestPromise7PutAtMaxKeys(t *testing.T) {
	p := pairsOf(manyKeys(60)...)
	for _, key := range []string{"a", "k1030a", "z", "k10"} {
		got, ok := impl.PutKey(p.treap(), key, "v")
		wantZeroTreap(t, "the sixty-first", got, ok)
	}
	for _, x := range p {
		got, ok := impl.PutKey(p.treap(), x.key, "other")
		wantTreap(t, "one of sixty", got, ok, p.with(x.key, "other").treap())
	}
	few := p[:59]
	got, ok := impl.PutKey(few.treap(), "z", "v")
	wantTreap(t, "the sixtieth", got, ok, few.with("z", "v").treap())
}

func TestPromise7GetKey(t *testing.T) {
	written := treapOf("m", "a", "z", "k")
	for key, want := range map[string]int{"z": 1, "k": 2, "a": 3, "m": 3} {
		if v, looks, ok := impl.GetKey(written, key); v != "v"+key || looks != want || !ok {
			t.Errorf("GetKey(%q) is %q %d %v", key, v, looks, ok)
		}
	}
	d := &dice{state: 75}
	for range 300 {
		p := d.pairs(60)
		for _, x := range p {
			if v, looks, ok := impl.GetKey(p.treap(), x.key); v != x.value || looks != p.looks(x.key) || !ok {
				t.Errorf("GetKey(%q) is %q %d %v, not %q %d", x.key, v, looks, ok, x.value, p.looks(x.key))
			}
		}
		for _, key := range []string{d.key(), "", "b" + d.key(), strings.Repeat("m", 41)} {
			if p.has(key) {
				continue
			}
			if v, looks, ok := impl.GetKey(p.treap(), key); v != "" || looks != 0 || ok {
				t.Errorf("GetKey(%q) is %q %d %v", key, v, looks, ok)
			}
		}
	}
}

func TestPromise7CutKey(t *testing.T) {
	p := pairsOf("m", "a", "z", "k", "pb", "ozac", "pc", "ozab")
	for _, x := range p {
		got, ok := impl.CutKey(p.treap(), x.key)
		wantTreap(t, "cut "+x.key, got, ok, p.without(x.key).treap())
		again, ok := impl.CutKey(got, x.key)
		wantZeroTreap(t, "cut twice "+x.key, again, ok)
	}
	for _, key := range []string{"", "b", "aa", "A", "zz", "\x00", "\xff", "m\x00", strings.Repeat("m", 41)} {
		got, ok := impl.CutKey(p.treap(), key)
		wantZeroTreap(t, "cut "+key, got, ok)
		got, ok = impl.CutKey(impl.Treap{}, key)
		wantZeroTreap(t, "cut from none "+key, got, ok)
	}
	last, ok := impl.CutKey(treapOf("a"), "a")
	wantTreap(t, "the last one", last, ok, impl.Treap{})
}

func wantKeys(t *testing.T, p pairs, from string, to string) {
	t.Helper()
	want := p.between(from, to, to != "").keys()
	if got, ok := impl.KeysFrom(p.treap(), from, to); !ok || !slices.Equal(got, want) {
		t.Errorf("KeysFrom %q below %q is %q %v, not %q", from, to, got, ok, want)
	}
}

func TestPromise7KeysFrom(t *testing.T) {
	p := pairsOf("a", "aa", "b", "k", "m", "z", "\x00", "\xff", "\xff\xff", "pb", "ozac")
	if got, ok := impl.KeysFrom(p.treap(), "aa", "m"); !ok || !slices.Equal(got, []string{"aa", "b", "k"}) {
		t.Errorf("KeysFrom is %q %v", got, ok)
	}
	if got, ok := impl.KeysFrom(p.treap(), "n", ""); !ok || !slices.Equal(got, []string{"ozac", "pb", "z", "\xff", "\xff\xff"}) {
		t.Errorf("KeysFrom is %q %v", got, ok)
	}
	bounds := append(p.keys(), "", "a\x00", "ab", "A", "l", "zz", "\xfe", "\xff\xff\xff", "\x00\x00", strings.Repeat("a", 41), strings.Repeat("\xff", 1000))
	for _, from := range bounds {
		for _, to := range bounds {
			wantKeys(t, p, from, to)
			wantKeys(t, nil, from, to)
			wantKeys(t, pairsOf("m"), from, to)
		}
	}
	d := &dice{state: 76}
	for range 500 {
		p := d.pairs(60)
		wantKeys(t, p, d.key(), d.key())
		wantKeys(t, p, d.key(), "")
		wantKeys(t, p, "", d.key())
	}
	wantKeys(t, pairsOf(manyKeys(60)...), "", "")
}

func TestPromise7SplitTreap(t *testing.T) {
	d := &dice{state: 77}
	for range 300 {
		p := d.pairs(60)
		keys := append(p.keys(), d.key(), d.key(), "\x00", "\xff", strings.Repeat("\xff", 40))
		for _, key := range []string{keys[0], keys[d.below(len(keys))], keys[d.below(len(keys))], keys[len(keys)-1], keys[len(keys)-3]} {
			low, high, ok := impl.SplitTreap(p.treap(), key)
			wantTreap(t, "below "+key, low, ok, p.between("", key, true).treap())
			wantTreap(t, "from on "+key, high, ok, p.between(key, "", false).treap())
			back, ok := impl.JoinTreaps(low, high)
			wantTreap(t, "joined again", back, ok, p.treap())
		}
	}
}

func TestPromise7SplitAtTheEnds(t *testing.T) {
	p := pairsOf("m", "a", "z", "k")
	for key, many := range map[string]int{"A": 0, "a": 0, "a\x00": 1, "b": 1, "k": 1, "l": 2, "m": 2, "n": 3, "z": 3, "z\x00": 4, "zz": 4, strings.Repeat("a", 40): 1, strings.Repeat("z", 40): 4} {
		low, high, ok := impl.SplitTreap(p.treap(), key)
		wantTreap(t, "below "+key, low, ok, p[:many].treap())
		wantTreap(t, "from on "+key, high, ok, p[many:].treap())
	}
	low, high, ok := impl.SplitTreap(impl.Treap{}, "a")
	wantTreap(t, "below in none", low, ok, impl.Treap{})
	wantTreap(t, "from on in none", high, ok, impl.Treap{})
	for _, key := range []string{"", strings.Repeat("a", 41), strings.Repeat("z", 100000)} {
		low, high, ok := impl.SplitTreap(p.treap(), key)
		wantZeroTreap(t, "below no key", low, ok)
		wantZeroTreap(t, "from on no key", high, ok)
	}
}

func TestPromise7JoinTreaps(t *testing.T) {
	a, b := treapOf("a", "c", "e"), treapOf("f", "m", "pb", "z")
	got, ok := impl.JoinTreaps(a, b)
	wantTreap(t, "joined", got, ok, treapOf("a", "c", "e", "f", "m", "pb", "z"))
	got, ok = impl.JoinTreaps(b, a)
	wantZeroTreap(t, "the greater first", got, ok)
	for _, keys := range [][]string{{"e"}, {"e", "z"}, {"a"}, {"b"}, {"d", "z"}, {"A", "z"}, {"a", "c", "e"}, {"c", "f", "g", "h", "z"}} {
		got, ok := impl.JoinTreaps(a, treapOf(keys...))
		wantZeroTreap(t, "keys that are not greater", got, ok)
	}
	for _, keys := range [][]string{{"f"}, {"a", "f"}, {"g"}, {"z"}, {"a", "zz"}} {
		got, ok := impl.JoinTreaps(treapOf(keys...), b)
		wantZeroTreap(t, "keys that are not less", got, ok)
	}
	got, ok = impl.JoinTreaps(a, treapOf("e\x00"))
	wantTreap(t, "just above", got, ok, treapOf("a", "c", "e", "e\x00"))
}

func TestPromise7JoinTreapsWithNone(t *testing.T) {
	for _, keys := range [][]string{nil, {"a"}, {"m", "a", "z", "k"}, manyKeys(60)} {
		one := treapOf(keys...)
		got, ok := impl.JoinTreaps(one, impl.Treap{})
		wantTreap(t, "with none behind", got, ok, one)
		got, ok = impl.JoinTreaps(impl.Treap{Limbs: []impl.Limb{}}, one)
		wantTreap(t, "with none ahead", got, ok, one)
	}
}

func TestPromise7JoinTreapsAtMaxKeys(t *testing.T) {
	keys := manyKeys(61)
	for _, k := range []int{1, 2, 30, 59, 60} {
		got, ok := impl.JoinTreaps(treapOf(keys[:k]...), treapOf(keys[k:60]...))
		wantTreap(t, "sixty together", got, ok, treapOf(keys[:60]...))
		got, ok = impl.JoinTreaps(treapOf(keys[:k]...), treapOf(keys[k:]...))
		wantZeroTreap(t, "sixty-one together", got, ok)
	}
}

func TestPromise7DeepIn(t *testing.T) {
	for deep, keys := range [][]string{{}, {"a"}, {"a", "z"}, {"m", "a", "z", "k"}} {
		if got, ok := impl.DeepIn(treapOf(keys...)); got != deep || !ok {
			t.Errorf("DeepIn(%v) is %d %v", keys, got, ok)
		}
	}
	d := &dice{state: 78}
	for range 300 {
		p := d.pairs(60)
		if got, ok := impl.DeepIn(p.treap()); got != p.deep() || !ok {
			t.Errorf("DeepIn is %d %v, not %d", got, ok, p.deep())
		}
	}
}

// A long row of changes, each held against a list.
func TestPromise7ManyChanges(t *testing.T) {
	d := &dice{state: 79}
	var p pairs
	now := impl.Treap{}
	for k := range 3000 {
		key := d.key()
		if d.below(5) < 3 && (len(p) < 60 || p.has(key)) {
			p = p.with(key, key[:min(len(key), 3)])
			next, ok := impl.PutKey(now, key, key[:min(len(key), 3)])
			wantTreap(t, "put", next, ok, p.treap())
			now = next
			continue
		}
		if len(p) > 0 && d.below(3) > 0 {
			key = p[d.below(len(p))].key
		}
		next, ok := impl.CutKey(now, key)
		if !p.has(key) {
			wantZeroTreap(t, "cut", next, ok)
			continue
		}
		p = p.without(key)
		wantTreap(t, "cut", next, ok, p.treap())
		now = next
		if t.Failed() {
			t.Fatalf("at change %d", k)
		}
	}
}
