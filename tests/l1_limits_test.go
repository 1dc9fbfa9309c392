package tests

import (
	"strings"
	"testing"

	"loop.example/g00274/impl"
)

// wantBad asks that neither the value nor its text is taken.
func wantBad(t *testing.T, x tree) {
	t.Helper()
	if impl.GoodValue(x.value()) {
		t.Errorf("good, but beyond a limit: %s", x.tidy())
	}
	if s, ok := impl.ValueText(x.value()); ok || s != "" {
		t.Errorf("ValueText is %q %v", s, ok)
	}
	if v, ok := impl.ReadValue(x.tidy()); ok || len(v.Nodes) != 0 {
		t.Errorf("ReadValue(%q) is %v %v", x.tidy(), v, ok)
	}
	if s, ok := impl.TidyText(x.tidy()); ok || s != "" {
		t.Errorf("TidyText(%q) is %q %v", x.tidy(), s, ok)
	}
}

func wantGood(t *testing.T, x tree) {
	t.Helper()
	wantValue(t, x.value(), x.tidy())
}

func manyTexts(n int, last tree) tree {
	x := listOf()
	for range n {
		x.kids = append(x.kids, textTree(strings.Repeat("t", 24)))
	}
	x.kids = append(x.kids, last)
	return x
}

func TestLimitMaxText(t *testing.T) {
	just := manyTexts(11, numberTree(7))
	beyond := manyTexts(11, numberTree(77))
	if len(just.tidy()) != 300 || len(beyond.tidy()) != 301 {
		t.Fatal(len(just.tidy()), len(beyond.tidy()))
	}
	wantGood(t, just)
	wantBad(t, beyond)
}

func TestLimitMaxTextCountsEveryByte(t *testing.T) {
	// One of each that makes a text longer: escapes, names, marks, signs, words.
	for _, last := range []tree{
		textTree(`"\"\"\"\"`), {kind: impl.KindTrue}, {kind: impl.KindFalse}, {kind: impl.KindNull},
		numberTree(-12), mapOf(`\`, listOf()), mapOf("", numberTree(-1)), {kind: impl.KindMap}, listOf(),
	} {
		x := manyTexts(10, last)
		pad := 300 - len(x.tidy()) - len(`,""`)
		if pad < 0 || pad > 24 {
			t.Fatal(pad, x.tidy())
		}
		x.kids = append(x.kids, textTree(strings.Repeat("p", pad)))
		wantGood(t, x)
		if pad < 24 {
			x.kids[len(x.kids)-1] = textTree(strings.Repeat("p", pad+1))
			wantBad(t, x)
		}
	}
}

func TestLimitMaxTextOfBlanks(t *testing.T) {
	for _, blanks := range []string{strings.Repeat(" ", 299), strings.Repeat("\n", 299)} {
		for _, s := range []string{blanks + "1", "1" + blanks} {
			if got, ok := impl.TidyText(s); !ok || got != "1" {
				t.Errorf("a text of 300 bytes is %q %v", got, ok)
			}
		}
		for _, s := range []string{blanks + " 1", "1 " + blanks, " 1" + blanks} {
			if v, ok := impl.ReadValue(s); ok || len(v.Nodes) != 0 {
				t.Errorf("a text of 301 bytes is %v %v", v, ok)
			}
		}
	}
}

func nested(deep int, inner tree) tree {
	for k := range deep {
		if k%2 == 0 {
			inner = mapOf("a", inner)
		} else {
			inner = listOf(inner)
		}
	}
	return inner
}

func TestLimitMaxDeep(t *testing.T) {
	for _, leaf := range []tree{numberTree(1), textTree("x"), {kind: impl.KindNull}} {
		wantGood(t, nested(6, leaf))
		wantBad(t, nested(7, leaf))
		wantGood(t, listOf(numberTree(1), nested(5, leaf), listOf()))
		wantBad(t, listOf(numberTree(1), nested(6, leaf), listOf()))
	}
	for _, leaf := range []tree{listOf(), {kind: impl.KindMap}} {
		wantGood(t, nested(5, leaf))
		wantBad(t, nested(6, leaf))
	}
	for _, s := range []string{strings.Repeat("[", 300), strings.Repeat(`{"":`, 75), strings.Repeat("[", 150) + strings.Repeat("]", 150)} {
		if _, ok := impl.ReadValue(s); ok {
			t.Errorf("ReadValue(%q) tells a value", s)
		}
	}
}

func TestLimitMaxNodes(t *testing.T) {
	x := listOf()
	for range 79 {
		x.kids = append(x.kids, numberTree(1))
	}
	wantGood(t, x)
	x.kids = append(x.kids, numberTree(1))
	wantBad(t, x)

	pairs := listOf()
	for range 26 {
		pairs.kids = append(pairs.kids, listOf(numberTree(1), numberTree(2)))
	}
	pairs.kids = append(pairs.kids, numberTree(3))
	wantGood(t, pairs)
	pairs.kids = append(pairs.kids, numberTree(3))
	wantBad(t, pairs)
}

func TestLimitMaxString(t *testing.T) {
	just, beyond := strings.Repeat("s", 24), strings.Repeat("s", 25)
	wantGood(t, textTree(just))
	wantBad(t, textTree(beyond))
	wantGood(t, mapOf(just, numberTree(1)))
	wantBad(t, mapOf(beyond, numberTree(1)))
	wantGood(t, textTree(strings.Repeat(`\`, 24)))
	wantBad(t, textTree(strings.Repeat(`\`, 25)))

	wantGood(t, textTree(strings.Repeat("A", 24)))
	if s, ok := impl.TidyText(`"` + strings.Repeat(`\u0041`, 24) + `"`); !ok || s != quote(strings.Repeat("A", 24)) {
		t.Error(s, ok)
	}
	if s, ok := impl.TidyText(`"` + strings.Repeat(`\u0041`, 25) + `"`); ok || s != "" {
		t.Error(s, ok)
	}
	if v, ok := impl.TextOf(just); !ok || v.Nodes[0].Text != just {
		t.Error(v, ok)
	}
	if v, ok := impl.TextOf(beyond); ok || len(v.Nodes) != 0 {
		t.Error(v, ok)
	}
}

func TestLimitNumbers(t *testing.T) {
	for _, n := range []int{1000000000, 999999999, -999999999, -1000000000} {
		wantGood(t, numberTree(n))
		wantGood(t, listOf(numberTree(n), mapOf("n", numberTree(n))))
	}
	for _, n := range []int{1000000001, -1000000001, 10000000000, 1<<63 - 1, -1 << 63} {
		wantBad(t, numberTree(n))
		wantBad(t, listOf(numberTree(1), mapOf("n", numberTree(n))))
		if v := impl.NumberOf(n); !sameValue(v, numberTree(0).value()) {
			t.Errorf("NumberOf(%d) is %v, not the value of 0", n, v)
		}
	}
}

func TestLimitBytes(t *testing.T) {
	for c := range 256 {
		s := string([]byte{'a', byte(c)})
		good := c >= 32 && c <= 126
		if got, ok := impl.TextOf(s); ok != good || ok && got.Nodes[0].Text != s {
			t.Errorf("TextOf(%q) is %v %v", s, got, ok)
		}
		for _, x := range []tree{textTree(s), mapOf(s, numberTree(1))} {
			if good {
				wantGood(t, x)
			} else {
				wantBad(t, x)
			}
		}
	}
}
