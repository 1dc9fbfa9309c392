package tests

import (
	"slices"
	"strings"
	"testing"
)

func TestPromise12FoundByHalving(t *testing.T) {
	// The endings of banana: a, ana, anana, banana, na, nana.
	wantPlaces(t, "banana", "ana", []int{1, 3}, 3+2)
	wantPlaces(t, "banana", "a", []int{1, 3, 5}, 3+3)
	wantPlaces(t, "banana", "nan", []int{2}, 3+1)
	wantPlaces(t, "banana", "na", []int{2, 4}, 3+1)
	wantPlaces(t, "banana", "banana", []int{0}, 3+2)
	wantPlaces(t, "banana", "x", nil, 2)
	wantPlaces(t, "banana", "A", nil, 3+3)
	wantPlaces(t, "banana", "bananas", nil, 3+2)
	wantPlaces(t, "banana", "anas", nil, 3+2)
}

func TestPromise12FoundInNoText(t *testing.T) {
	for _, p := range []string{"a", "\x00", "\xff", "ab", strings.Repeat("a", 120)} {
		wantPlaces(t, "", p, nil, 0)
	}
}

func TestPromise12FoundInOneByte(t *testing.T) {
	wantPlaces(t, "b", "b", []int{0}, 1+1)
	wantPlaces(t, "b", "a", nil, 1+1)
	wantPlaces(t, "b", "c", nil, 1)
	wantPlaces(t, "b", "ba", nil, 1)
	wantPlaces(t, "b", "b\x00", nil, 1)
	wantPlaces(t, "\x00", "\x00", []int{0}, 1+1)
	wantPlaces(t, "\xff", "\xff", []int{0}, 1+1)
	wantPlaces(t, "\x00", "\xff", nil, 1)
	wantPlaces(t, "\xff", "\x00", nil, 1+1)
}

// Places are told as they rise, not as their endings stand.
func TestPromise12FoundEverywhere(t *testing.T) {
	s := strings.Repeat("a", 120)
	var all []int
	for k := range 120 {
		all = append(all, k)
	}
	wantPlaces(t, s, "a", all, oracleHalvings(0, 120, 0)+oracleHalvings(0, 120, 120))
	for length := 1; length <= 120; length++ {
		wantPlaces(t, s, s[:length], all[:121-length], oracleHeld(s, s[:length]))
	}
}

func TestPromise12FoundAtTheEnd(t *testing.T) {
	for _, s := range someTexts() {
		for k := range len(s) {
			wantFoundIn(t, s, s[k:])
			if len(s)-k < 120 {
				wantFoundIn(t, s, s[k:]+"a")
				wantFoundIn(t, s, s[k:]+"\x00")
				wantFoundIn(t, s, s[k:]+"\xff")
			}
		}
	}
}

func TestPromise12FoundTextsOfEachLength(t *testing.T) {
	for _, s := range []string{"", "a", "banana", strings.Repeat("a", 119), strings.Repeat("a", 120), fibonacciText(120), unlikeBytes(120)} {
		l := oracleEndings(s)
		for _, one := range []string{"a", "b", "\x00", "\xff"} {
			for length := 1; length <= 120; length++ {
				wantFoundIn(t, s, strings.Repeat(one, length))
			}
			for _, length := range []int{0, 121, 122, 240, 1000000} {
				wantNotFoundBy(t, "so long", s, l, strings.Repeat(one, length))
			}
		}
	}
}

func TestPromise12FoundWholeTextOfMostBytes(t *testing.T) {
	for _, s := range []string{strings.Repeat("a", 120), fibonacciText(120), unlikeBytes(120), strings.Repeat("\x00\xff", 60)} {
		wantFoundIn(t, s, s)
		wantPlaces(t, s, s, []int{0}, oracleHeld(s, s))
		wantNotFoundBy(t, "one more", s, oracleEndings(s), s+s[:1])
	}
}

func TestPromise12FoundEachStretch(t *testing.T) {
	for _, s := range someTexts() {
		if len(s) > 60 {
			continue
		}
		for p := range oracleStretches(s) {
			wantFoundIn(t, s, p)
		}
	}
}

// What stands nowhere is held against endings, too: how often, hangs on where it would stand.
func TestPromise12FoundAllShortTexts(t *testing.T) {
	searched := eachText("abc", 4)[1:]
	for _, s := range slices.Concat(eachText("ab", 6), eachText("abc", 4)) {
		for _, p := range searched {
			wantFoundIn(t, s, p)
		}
	}
}

func TestPromise12FoundInManyTexts(t *testing.T) {
	d := &dice{state: 122}
	found, nowhere := 0, 0
	for range 400 {
		s := d.ending()
		for range 10 {
			p := d.textOf("ab\x00\xffz", 1+d.below(4))
			if len(s) > 0 && d.below(3) > 0 {
				first := d.below(len(s))
				p = s[first : first+1+d.below(len(s)-first)]
			}
			if len(p) < 120 && d.below(4) == 0 {
				p += d.pick("ab\x00\xff")
			}
			wantFoundIn(t, s, p)
			if strings.Contains(s, p) {
				found++
			} else {
				nowhere++
			}
		}
	}
	if found < 800 || nowhere < 800 {
		t.Errorf("%d found and %d not: that tells little", found, nowhere)
	}
}

// So few are held against p that halving must have told the others: twice as often as 120 can be halved.
func TestPromise12FewAreHeldAgainst(t *testing.T) {
	for _, s := range []string{strings.Repeat("a", 120), fibonacciText(120), unlikeBytes(120), turned(unlikeBytes(120))} {
		for _, p := range []string{"a", "b", "\x00", "\xff", s[:60], s[60:], s} {
			if held := oracleHeld(s, p); held > 14 {
				t.Errorf("%d are held against %q", held, p)
			}
			wantFoundIn(t, s, p)
		}
	}
}

func TestPromise12FoundByListsThatAreNot(t *testing.T) {
	for what, l := range brokenEndings(oracleEndings("banana")) {
		for _, p := range []string{"a", "ana", "banana", "nowhere", strings.Repeat("a", 120)} {
			wantNotFoundBy(t, what, "banana", l, p)
		}
	}
}
