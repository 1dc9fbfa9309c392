package tests

import (
	"cmp"
	"encoding/binary"
	"slices"
	"strconv"
	"strings"
	"testing"

	"loop.example/g00274/impl"
)

// order says of two trees what the chapter says of two values, part by part.
func order(a tree, b tree) int {
	if a.kind != b.kind {
		return cmp.Compare(a.kind, b.kind)
	}
	if a.kind == impl.KindNumber {
		return cmp.Compare(a.num, b.num)
	}
	if a.kind == impl.KindText {
		return cmp.Compare(a.text, b.text)
	}
	for k := range min(len(a.kids), len(b.kids)) {
		if a.kind == impl.KindMap && a.names[k] != b.names[k] {
			return cmp.Compare(a.names[k], b.names[k])
		}
		if n := order(a.kids[k], b.kids[k]); n != 0 {
			return n
		}
	}
	return cmp.Compare(len(a.kids), len(b.kids))
}

func (x tree) key() string {
	s := string([]byte{byte(x.kind)})
	switch x.kind {
	case impl.KindNumber:
		s += string(binary.BigEndian.AppendUint32(nil, uint32(x.num+1000000000)))
	case impl.KindText:
		s += x.text + "\x01"
	}
	for k, kid := range x.kids {
		if x.kind == impl.KindMap {
			s += "\x02" + x.names[k] + "\x01"
		}
		s += kid.key()
	}
	if x.kind >= impl.KindList {
		s += "\x00"
	}
	return s
}

// rising are texts of values of every kind in their order.
func rising() []string {
	return []string{
		`null`, `false`, `true`,
		`-1000000000`, `-999999999`, `-16777217`, `-65537`, `-257`, `-256`, `-2`, `-1`, `0`, `1`, `9`, `10`, `255`, `256`, `65536`, `16777216`, `999999999`, `1000000000`,
		`""`, `" "`, `"  "`, `" a"`, `"!"`, `"10"`, `"9"`, `"A"`, `"\\"`, `"a"`, `"a "`, `"aa"`, `"ab"`, `"a~"`, `"b"`, `"~"`, `"~~"`,
		`[]`, `[null]`, `[null,null]`, `[null,[]]`, `[false]`, `[-1]`, `[0]`, `[0,0]`, `[1]`, `[1,"a"]`, `[1,"ab"]`, `[1,[]]`, `[2]`, `["a"]`, `["a","b"]`, `["aa"]`,
		`[[]]`, `[[],null]`, `[[],[]]`, `[[null]]`, `[[1],2]`, `[[1,0]]`, `[[1,0],0]`, `[[[]]]`, `[[[[[[]]]]]]`, `[{}]`, `[{},1]`, `[{"":1}]`, `[{"a":1},1]`, `[{"a":1,"b":1}]`,
		`{}`, `{"":null}`, `{"":null,"a":1}`, `{"":[]}`, `{"":[],"b":1}`, `{"":[1]}`, `{" ":1}`, `{"a":null}`, `{"a":1}`, `{"a":1,"aa":1}`, `{"a":1,"b":1}`, `{"a":1,"b":2}`, `{"a":1,"c":0}`,
		`{"a":2}`, `{"a":"x"}`, `{"a":[]}`, `{"a":{}}`, `{"a":{},"b":1}`, `{"a":{"a":1}}`, `{"a ":1}`, `{"aa":0}`, `{"b":0}`,
	}
}

func mustKey(t *testing.T, v impl.Value) string {
	t.Helper()
	key, ok := impl.KeyOf(v)
	if !ok {
		t.Fatalf("KeyOf(%v) tells none", v)
	}
	return key
}

// wantOrder asks for one answer in both directions, of the values and of their keys.
func wantOrder(t *testing.T, a impl.Value, b impl.Value, want int) {
	t.Helper()
	n, ok := impl.CompareValue(a, b)
	if n != want || !ok {
		t.Errorf("CompareValue(%v, %v) is %d %v, not %d", a, b, n, ok, want)
	}
	n, ok = impl.CompareValue(b, a)
	if n != -want || !ok {
		t.Errorf("CompareValue(%v, %v) is %d %v, not %d", b, a, n, ok, -want)
	}
	if n := strings.Compare(mustKey(t, a), mustKey(t, b)); n != want {
		t.Errorf("the keys of %v and %v stand as %d, not as %d", a, b, n, want)
	}
}

func TestPromise2ValuesInTheirOrder(t *testing.T) {
	texts := rising()
	for i, a := range texts {
		for k, b := range texts {
			wantOrder(t, mustRead(t, a), mustRead(t, b), cmp.Compare(i, k))
		}
	}
}

func TestPromise2OrderAgainstTrees(t *testing.T) {
	d := &dice{state: 21}
	alike := 0
	for range 40000 {
		a := d.soundTree()
		b := d.near(a)
		want := order(a, b)
		if want == 0 {
			alike++
		}
		wantOrder(t, a.value(), b.value(), want)
	}
	if alike < 500 || alike > 30000 {
		t.Errorf("%d of 40000 are alike: that tells little", alike)
	}
}

// near tells a tree that is like x for the most part, so that both are not told apart at once.
func (d *dice) near(x tree) tree {
	for {
		if y := d.nearPart(x); y.sound() {
			return y
		}
	}
}

func (d *dice) nearPart(x tree) tree {
	x.kids, x.names = slices.Clone(x.kids), slices.Clone(x.names)
	if len(x.kids) > 0 && d.below(6) > 0 {
		k := d.below(len(x.kids))
		x.kids[k] = d.nearPart(x.kids[k])
		return x
	}
	switch d.below(6) {
	case 0, 1:
		return d.tree(1)
	case 2:
		if x.kind == impl.KindList {
			x.kids = append(x.kids, d.tree(1))
		}
	case 3:
		if n := len(x.kids); n > 0 {
			x.kids = x.kids[:n-1]
			x.names = x.names[:min(len(x.names), n-1)]
		}
	case 4:
		if n := len(x.names); n > 0 {
			x.names[n-1] += d.pick(" a~")
		}
		if x.kind == impl.KindText {
			x.text += d.pick(" a~")
		}
	}
	return x
}

func TestPromise2KeysAsTheyAreWritten(t *testing.T) {
	for text, want := range map[string]string{
		"null":              "\x01",
		"false":             "\x02",
		"true":              "\x03",
		"-1000000000":       "\x04\x00\x00\x00\x00",
		"-999999999":        "\x04\x00\x00\x00\x01",
		"-1":                "\x04\x3b\x9a\xc9\xff",
		"0":                 "\x04\x3b\x9a\xca\x00",
		"1000000000":        "\x04\x77\x35\x94\x00",
		`""`:                "\x05\x01",
		`"a b"`:             "\x05a b\x01",
		`"\"\\"`:            "\x05\"\\\x01",
		"[]":                "\x06\x00",
		`[null,["x"],{}]`:   "\x06\x01\x06\x05x\x01\x00\x07\x00\x00",
		"{}":                "\x07\x00",
		`{"":true}`:         "\x07\x02\x01\x03\x00",
		`{"a":0,"b":[]}`:    "\x07\x02a\x01\x04\x3b\x9a\xca\x00\x02b\x01\x06\x00\x00",
		`{"a":{"b":"c"}}`:   "\x07\x02a\x01\x07\x02b\x01\x05c\x01\x00\x00",
		`{"b":null,"a":""}`: "\x07\x02a\x01\x05\x01\x02b\x01\x01\x00",
	} {
		v := mustRead(t, text)
		if key := mustKey(t, v); key != want {
			t.Errorf("the key of %s is %q, not %q", text, key, want)
		}
		if got, ok := impl.ReadKey(want); !ok || !sameValue(got, v) {
			t.Errorf("ReadKey(%q) is %v %v", want, got, ok)
		}
	}
}

func TestPromise2ValuesComeBackFromTheirKeys(t *testing.T) {
	d := &dice{state: 22}
	for range 20000 {
		x := d.soundTree()
		key := mustKey(t, x.value())
		if key != x.key() {
			t.Fatalf("the key of %s is %q, not %q", x.tidy(), key, x.key())
		}
		if v, ok := impl.ReadKey(key); !ok || !sameValue(v, x.value()) {
			t.Fatalf("ReadKey(%q) is %v %v", key, v, ok)
		}
	}
	for _, s := range rising() {
		v := mustRead(t, s)
		if got, ok := impl.ReadKey(mustKey(t, v)); !ok || !sameValue(got, v) {
			t.Errorf("%s comes back as %v %v", s, got, ok)
		}
	}
}

func wantNoKey(t *testing.T, what string, key string) {
	t.Helper()
	if v, ok := impl.ReadKey(key); ok || len(v.Nodes) != 0 {
		t.Errorf("%s: ReadKey(%.60q) is %v %v", what, key, v, ok)
	}
}

func TestPromise2KeysCutShortOrWithAByteTooMany(t *testing.T) {
	for _, s := range rising() {
		key := mustKey(t, mustRead(t, s))
		for k := range len(key) {
			wantNoKey(t, "cut short", key[:k])
		}
		for c := range 256 {
			wantNoKey(t, "with a byte too many", key+string([]byte{byte(c)}))
		}
		wantNoKey(t, "twice", key+key)
	}
}

func TestPromise2KeysOfNoGoodValue(t *testing.T) {
	number := mapOf("a", numberTree(1)).key()[4:9]
	for what, key := range map[string]string{
		"nothing":                  "",
		"a kind 0":                 "\x00",
		"a kind 8":                 "\x08",
		"a kind 255":               "\xff",
		"a number just beyond":     "\x04\x77\x35\x94\x01",
		"the greatest four bytes":  "\x04\xff\xff\xff\xff",
		"the sign's byte":          "\x04\x80\x00\x00\x00",
		"a part just beyond":       "\x06\x04\x77\x35\x94\x01\x00",
		"names that fall":          "\x07\x02b\x01" + number + "\x02a\x01" + number + "\x00",
		"names alike":              "\x07\x02a\x01" + number + "\x02a\x01" + number + "\x00",
		"empty names alike":        "\x07\x02\x01\x01\x02\x01\x01\x00",
		"no byte 2 ahead":          "\x07a\x01" + number + "\x00",
		"a kind ahead of a name":   "\x07\x02\x05a\x01" + number + "\x00",
		"a name without a value":   "\x07\x02a\x01\x00",
		"a name without its end":   "\x07\x02a" + number + "\x00",
		"a value without a name":   "\x07" + number + "\x00",
		"a byte 2 in a list":       "\x06\x02a\x01\x01\x00",
		"a list with an end twice": "\x06\x00\x00",
		"a text with an end twice": "\x05\x01\x01",
		"a text beyond its end":    "\x05a\x01a\x01",
		"a text of 25":             textTree(strings.Repeat("s", 25)).key(),
		"a name of 25":             mapOf(strings.Repeat("s", 25), numberTree(1)).key(),
		"seven deep":               nested(7, numberTree(1)).key(),
		"six deep and a list":      nested(6, listOf()).key(),
		"a text of 301 bytes":      manyTexts(11, numberTree(77)).key(),
		"81 nodes":                 listOf(slices.Repeat([]tree{numberTree(1)}, 80)...).key(),
	} {
		wantNoKey(t, what, key)
	}
	if number != numberTree(1).key() {
		t.Errorf("the number's key is %q", number)
	}
}

func TestPromise2KeysAtTheLimits(t *testing.T) {
	for _, x := range []tree{
		textTree(strings.Repeat("s", 24)),
		mapOf(strings.Repeat("s", 24), numberTree(1)),
		nested(6, numberTree(1)),
		nested(5, listOf()),
		manyTexts(11, numberTree(7)),
		listOf(slices.Repeat([]tree{numberTree(1)}, 79)...),
	} {
		if v, ok := impl.ReadKey(x.key()); !ok || !sameValue(v, x.value()) || mustKey(t, v) != x.key() {
			t.Errorf("ReadKey of the key of %s is %v %v", x.tidy(), v, ok)
		}
	}
}

func TestPromise2KeysWithBytesThatAreNotPrinted(t *testing.T) {
	for c := range 256 {
		s := "a" + string([]byte{byte(c)}) + "b"
		for _, x := range []tree{textTree(s), mapOf(s, numberTree(1)), listOf(textTree(s))} {
			v, ok := impl.ReadKey(x.key())
			if good := c >= 32 && c <= 126; ok != good || ok && !sameValue(v, x.value()) || !ok && len(v.Nodes) > 0 {
				t.Errorf("ReadKey(%q) is %v %v", x.key(), v, ok)
			}
		}
	}
}

// A text that is read as a key is the key of what was read, and no spoilt one is taken for another.
func TestPromise2SpoiltKeys(t *testing.T) {
	d := &dice{state: 23}
	read := 0
	for range 60000 {
		key := []byte(d.soundTree().key())
		for range 1 + d.below(2) {
			k := d.below(len(key))
			switch d.below(3) {
			case 0:
				key[k] = byte([]int{0, 1, 2, 3, 4, 5, 6, 7, 8, 31, 32, 126, 127, 255}[d.below(14)])
			case 1:
				key = slices.Delete(key, k, k+1)
			case 2:
				key = slices.Insert(key, k, byte([]int{0, 1, 2, 3, 5, 6, 7, 97}[d.below(8)]))
			}
			if len(key) == 0 {
				key = []byte{9}
			}
		}
		v, ok := impl.ReadKey(string(key))
		if !ok {
			if len(v.Nodes) > 0 {
				t.Fatalf("ReadKey(%q) is %v beside false", key, v)
			}
			continue
		}
		read++
		if !oracleGood(v) || treeOf(v.Nodes, 0).key() != string(key) {
			t.Fatalf("ReadKey(%q) is %v", key, v)
		}
	}
	if read < 1000 || read > 50000 {
		t.Errorf("%d of 60000 are read: that tells little", read)
	}
}

func TestPromise2PairKey(t *testing.T) {
	texts := rising()
	var pairs []string
	for _, a := range texts {
		for _, b := range texts {
			v, w := mustRead(t, a), mustRead(t, b)
			key, ok := impl.PairKey(v, w)
			if !ok || key != mustKey(t, v)+mustKey(t, w) {
				t.Fatalf("PairKey of %s and %s is %q %v", a, b, key, ok)
			}
			pairs = append(pairs, key)
		}
	}
	for k := range len(pairs) - 1 {
		if pairs[k] >= pairs[k+1] {
			t.Fatalf("the pairs %q and %q do not rise", pairs[k], pairs[k+1])
		}
	}
}

func TestPromise2AboveKey(t *testing.T) {
	high := strings.Repeat("\xff", 999)
	low := strings.Repeat("\x00", 999)
	for s, want := range map[string]string{
		"a":            "b",
		"ab":           "ac",
		"a\xff":        "b",
		"a\xff\xff":    "b",
		"a\xffb":       "a\xffc",
		"a\xff\xfe":    "a\xff\xff",
		"\x00":         "\x01",
		"\x00\xff":     "\x01",
		"\xfe":         "\xff",
		"\xfe\xff\xff": "\xff",
		"\xff\x00":     "\xff\x01",
		"\xffa\xff":    "\xffb",
		"\x7f":         "\x80",
		"a" + high:     "b",
		high + "a":     high + "b",
		low + "\x00":   low + "\x01",
	} {
		if got, ok := impl.AboveKey(s); !ok || got != want {
			t.Errorf("AboveKey(%.20q) is %.20q %v, not %.20q", s, got, ok, want)
		}
	}
	for _, s := range []string{"", "\xff", "\xff\xff", high, high + "\xff", low + "\x00\x00", high + "aa", "a" + high + "\xff", strings.Repeat("a", 1001), strings.Repeat("a", 1000000)} {
		if got, ok := impl.AboveKey(s); ok || got != "" {
			t.Errorf("AboveKey(%.20q) is %.20q %v", s, got, ok)
		}
	}
}

func TestPromise2AboveKeyIsTheLeastAbove(t *testing.T) {
	d := &dice{state: 24}
	letters := "\x00\x01a\xfe\xff\xff"
	text := func() string {
		s := ""
		for range d.below(5) {
			s += d.pick(letters)
		}
		return s
	}
	for range 40000 {
		s, x := text(), text()
		above, ok := impl.AboveKey(s)
		if !ok {
			if strings.Trim(s, "\xff") != "" {
				t.Fatalf("AboveKey(%q) tells none", s)
			}
			continue
		}
		if y := s + x; y >= above {
			t.Fatalf("AboveKey(%q) is %q, which is not above %q", s, above, y)
		}
		if x < above && x >= s && !strings.HasPrefix(x, s) {
			t.Fatalf("AboveKey(%q) is %q, and %q is less and above, too", s, above, x)
		}
	}
}

// Each key below a list's or a map's beginning lies between that and what AboveKey tells.
func TestPromise2AboveKeyOfPairs(t *testing.T) {
	texts := rising()
	for i, a := range texts {
		from := mustKey(t, mustRead(t, a))
		to, ok := impl.AboveKey(from)
		if !ok {
			t.Fatalf("AboveKey(%q) tells none", from)
		}
		for k, b := range texts {
			key, _ := impl.PairKey(mustRead(t, b), impl.NumberOf(k))
			if within := from <= key && key < to; within != (i == k) {
				t.Errorf("the pair of %s and %d lies between the bounds of %s: %v", b, k, a, within)
			}
		}
	}
}

func textsOf(t *testing.T, l []impl.Value) []string {
	t.Helper()
	var texts []string
	for _, v := range l {
		s, ok := impl.ValueText(v)
		if !ok {
			t.Fatalf("not good: %v", v)
		}
		texts = append(texts, s)
	}
	return texts
}

func TestPromise2SortValues(t *testing.T) {
	d := &dice{state: 25}
	texts := rising()
	for range 500 {
		var l []impl.Value
		var numbers []int
		for range d.below(61) {
			k := d.below(len(texts))
			numbers = append(numbers, k)
			l = append(l, mustRead(t, texts[k]))
		}
		slices.Sort(numbers)
		got, ok := impl.SortValues(l)
		if !ok || len(got) != len(l) {
			t.Fatalf("SortValues tells %d of %d, %v", len(got), len(l), ok)
		}
		for k, s := range textsOf(t, got) {
			if s != texts[numbers[k]] {
				t.Fatalf("at %d stands %s, not %s", k, s, texts[numbers[k]])
			}
		}
	}
}

func manyNumbers(n int) []impl.Value {
	var l []impl.Value
	for k := range n {
		l = append(l, impl.NumberOf(n-k))
	}
	return l
}

func TestPromise2SortValuesAtItsLimit(t *testing.T) {
	for _, n := range []int{0, 1, 2, 59, 60} {
		got, ok := impl.SortValues(manyNumbers(n))
		if !ok || len(got) != n {
			t.Fatalf("of %d SortValues tells %d, %v", n, len(got), ok)
		}
		for k, s := range textsOf(t, got) {
			if s != strconv.Itoa(k+1) {
				t.Fatalf("of %d at %d stands %s", n, k, s)
			}
		}
	}
	for _, n := range []int{61, 62, 1000} {
		if got, ok := impl.SortValues(manyNumbers(n)); ok || len(got) != 0 {
			t.Errorf("of %d SortValues tells %v %v", n, got, ok)
		}
	}
	if got, ok := impl.SortValues(nil); !ok || len(got) != 0 {
		t.Errorf("of nothing SortValues tells %v %v", got, ok)
	}
}

func TestPromise2SortValuesThatAreAlike(t *testing.T) {
	var l []impl.Value
	for range 30 {
		l = append(l, mustRead(t, `{"a":[1]}`), impl.NumberOf(3))
	}
	got, ok := impl.SortValues(l)
	if !ok || len(got) != 60 {
		t.Fatal(got, ok)
	}
	for k, s := range textsOf(t, got) {
		if want := []string{"3", `{"a":[1]}`}[k/30]; s != want {
			t.Errorf("at %d stands %s, not %s", k, s, want)
		}
	}
}

func TestPromise2SortValuesWithOneThatIsNotGood(t *testing.T) {
	for rule, v := range broken() {
		for _, l := range [][]impl.Value{{v}, {v, impl.NumberOf(1)}, {impl.NumberOf(1), v}, {impl.NumberOf(2), v, impl.NumberOf(1)}} {
			if got, ok := impl.SortValues(l); ok || len(got) != 0 {
				t.Errorf("%s: SortValues is %v %v", rule, got, ok)
			}
		}
	}
}
