package tests

import (
	"slices"
	"strings"
	"testing"

	"loop.example/g00274/impl"
)

func TestPromise12Constants(t *testing.T) {
	if impl.MaxSuffix != 120 {
		t.Error(impl.MaxSuffix)
	}
}

func TestPromise12TheEndingsOfWords(t *testing.T) {
	wantSuffixes(t, "banana", []int{5, 3, 1, 0, 4, 2})
	wantCommon(t, "banana", []int{0, 1, 3, 0, 0, 2})
	wantTwice(t, "banana", "ana")
	wantDistinct(t, "banana", 15)
	wantSuffixes(t, "mississippi", []int{10, 7, 4, 1, 0, 9, 8, 6, 3, 5, 2})
	wantCommon(t, "mississippi", []int{0, 1, 1, 4, 0, 0, 1, 0, 2, 1, 3})
	wantTwice(t, "mississippi", "issi")
	wantDistinct(t, "mississippi", 53)
}

func TestPromise12NoEndings(t *testing.T) {
	wantSuffixes(t, "", nil)
	wantSuffixes(t, "", []int{})
	wantCommon(t, "", nil)
	wantTwice(t, "", "")
	wantDistinct(t, "", 0)
}

func TestPromise12OneEnding(t *testing.T) {
	for c := range 256 {
		s := string([]byte{byte(c)})
		wantSuffixes(t, s, []int{0})
		wantCommon(t, s, []int{0})
		wantTwice(t, s, "")
		wantDistinct(t, s, 1)
	}
}

// What ends first is less: so the last place stands first.
func TestPromise12OneByteOverAndOver(t *testing.T) {
	for _, one := range []string{"a", "\x00", "\xff"} {
		for many := 1; many <= 120; many++ {
			s := strings.Repeat(one, many)
			var falling, rising []int
			for k := range many {
				falling = append(falling, many-1-k)
				rising = append(rising, k)
			}
			wantSuffixes(t, s, falling)
			wantCommon(t, s, rising)
			wantTwice(t, s, s[1:])
			wantDistinct(t, s, many)
		}
	}
}

func TestPromise12UnlikeBytes(t *testing.T) {
	for many := 1; many <= 120; many++ {
		var falling, rising []int
		for k := range many {
			falling = append(falling, many-1-k)
			rising = append(rising, k)
		}
		for _, s := range []string{unlikeBytes(many), unlikeBytes(256)[:many]} {
			wantSuffixes(t, s, rising)
			wantSuffixes(t, turned(s), falling)
			wantCommon(t, s, make([]int, many))
			wantTwice(t, s, "")
			wantTwice(t, turned(s), "")
			wantDistinct(t, s, many*(many+1)/2)
		}
	}
}

// Bytes are held against each other as numbers of 0 to 255, whatever letters they are a part of.
func TestPromise12BytesOfAllKinds(t *testing.T) {
	wantSuffixes(t, "\xff\x00", []int{1, 0})
	wantSuffixes(t, "\x00\xff", []int{0, 1})
	wantSuffixes(t, "\x80\x7f", []int{1, 0})
	wantSuffixes(t, "\x00\x00", []int{1, 0})
	wantSuffixes(t, "a\x00a", []int{1, 2, 0})
	wantSuffixes(t, "\xff\xff\x00\xff", []int{2, 3, 1, 0})
	wantCommon(t, "\xff\xff\x00\xff", []int{0, 0, 1, 1})
	wantSuffixes(t, "éé", []int{3, 1, 2, 0})
	wantTwice(t, "éé", "é")
	wantTwice(t, "世丗", "\xe4\xb8")
	wantDistinct(t, "éé", 7)
}

func TestPromise12NamedTexts(t *testing.T) {
	for _, s := range someTexts() {
		wantEndings(t, s)
	}
}

func TestPromise12AllShortTexts(t *testing.T) {
	for _, s := range slices.Concat(eachText("ab", 9), eachText("\x00a\xff", 5), eachText("abcd", 4)) {
		wantEndings(t, s)
	}
}

func TestPromise12ManyTexts(t *testing.T) {
	d := &dice{state: 121}
	for range 150 {
		wantEndings(t, d.ending())
	}
}

// No two lengths of a text are unlike but for the limit.
func TestPromise12TextsOfEachLength(t *testing.T) {
	for _, whole := range []string{fibonacciText(123), strings.Repeat("abcab", 30)[:123], unlikeBytes(123)} {
		for length := range 124 {
			s := whole[:length]
			if length > 120 {
				wantTooLong(t, s, oracleEndings(s))
				continue
			}
			wantSuffixes(t, s, oracleEndings(s))
			wantCommon(t, s, oracleCommon(s))
		}
	}
}

func TestPromise12TextsThatAreTooLong(t *testing.T) {
	for _, s := range []string{
		strings.Repeat("a", 121),
		strings.Repeat("\x00", 121),
		strings.Repeat("\xff", 121),
		unlikeBytes(121),
		unlikeBytes(256),
		fibonacciText(240),
		strings.Repeat("é", 61),
	} {
		wantTooLong(t, s, oracleEndings(s))
		wantTooLong(t, s, oracleEndings(s[:120]))
		wantTooLong(t, s, nil)
	}
	// It is bytes that are counted, not letters.
	wantEndings(t, strings.Repeat("é", 60))
}

// brokenEndings change one thing of a right list of four places at least.
func brokenEndings(l []int) map[string][]int {
	n := len(l)
	with := func(at int, place int) []int {
		changed := slices.Clone(l)
		changed[at] = place
		return changed
	}
	swapped := slices.Clone(l)
	swapped[n-2], swapped[n-1] = swapped[n-1], swapped[n-2]
	backwards := slices.Clone(l)
	slices.Reverse(backwards)
	return map[string][]int{
		"no list":                     nil,
		"one too short":               l[:n-1],
		"one too short, at the front": l[1:],
		"one too short, within":       slices.Concat(l[:1], l[2:]),
		"one too long":                slices.Concat(l, l[:1]),
		"one too long, by the length": append(slices.Clone(l), n),
		"one too long, by below 0":    append(slices.Clone(l), -1),
		"one too long, at the front":  slices.Concat([]int{n}, l),
		"the list twice":              slices.Concat(l, l),
		"the last two turned":         swapped,
		"backwards":                   backwards,
		"a place twice":               with(1, l[0]),
		"a place twice, the last":     with(n-1, l[0]),
		"a place below 0":             with(0, -1),
		"a place below 0, last":       with(n-1, -1),
		"the least place":             with(1, least),
		"a place at the end":          with(0, n),
		"a place at the end, last":    with(n-1, n),
		"a place beyond the end":      with(1, n+1),
		"the greatest place":          with(n-1, greatest),
		"a place and two to the 32":   with(1, l[1]+1<<32),
		"zeros alone":                 make([]int, n),
	}
}

func TestPromise12ListsThatAreNot(t *testing.T) {
	for _, s := range someTexts() {
		if len(s) < 4 {
			continue
		}
		for what, l := range brokenEndings(oracleEndings(s)) {
			wantNoSuffixes(t, what, s, l)
		}
	}
}

func TestPromise12ListsOfShortTexts(t *testing.T) {
	wantNoSuffixes(t, "a place of no text", "", []int{0})
	wantNoSuffixes(t, "below 0, of no text", "", []int{-1})
	for _, l := range [][]int{nil, {1}, {-1}, {0, 0}, {0, 1}, {greatest}, {least}} {
		wantNoSuffixes(t, "one byte", "a", l)
	}
	for _, l := range [][]int{{0, 1}, {0}, {1}, {1, 1}, {0, 0}, {1, 0, 0}, {2, 1}, {1, 2}} {
		wantNoSuffixes(t, "two bytes alike", "aa", l)
		wantNoSuffixes(t, "two bytes that fall", "ba", l)
	}
}

// Any two places that are turned make another list.
func TestPromise12AnyTwoPlacesTurned(t *testing.T) {
	for _, s := range []string{"aaaaa", "banana", "mississippi", "\x00\xff\x00\xff", fibonacciText(30)} {
		right := oracleEndings(s)
		for first := range right {
			for second := range first {
				l := slices.Clone(right)
				l[first], l[second] = l[second], l[first]
				wantNoSuffixes(t, "turned", s, l)
			}
		}
	}
}

// A list is right of one text, and not of another one with as many bytes.
func TestPromise12ListsOfOtherTexts(t *testing.T) {
	texts := eachText("abc", 5)
	for k, s := range texts {
		other := texts[(k*7+3)%len(texts)]
		l := oracleEndings(other)
		if slices.Equal(l, oracleEndings(s)) {
			wantSuffixes(t, s, l)
		} else {
			wantNoSuffixes(t, "of "+other, s, l)
		}
	}
}

func TestPromise12NothingStandsTwice(t *testing.T) {
	for _, s := range []string{"", "a", "ab", "ba", "abc", "\x00\xff", "zyx\x00", unlikeBytes(120), turned(unlikeBytes(120))} {
		wantTwice(t, s, "")
	}
}

func TestPromise12WhatStandsTwiceOverlaps(t *testing.T) {
	wantTwice(t, "aa", "a")
	wantTwice(t, "aaa", "aa")
	wantTwice(t, "ababa", "aba")
	wantTwice(t, "xabcabcabcy", "abcabc")
	wantTwice(t, strings.Repeat("a", 120), strings.Repeat("a", 119))
	wantTwice(t, strings.Repeat("ab", 60), strings.Repeat("ab", 59))
	wantTwice(t, strings.Repeat("\x00\xff", 60), strings.Repeat("\x00\xff", 59))
}

func TestPromise12SeveralStandTwice(t *testing.T) {
	wantTwice(t, "cdxcdyabzab", "ab")
	wantTwice(t, "abxabycdzcd", "ab")
	wantTwice(t, "baab", "a")
	wantTwice(t, "bcabca", "bca")
	wantTwice(t, "zzxyyvww", "w")
	wantTwice(t, "\xff\xffa\x00\x00", "\x00")
	wantTwice(t, "a\xffba\xffc\x00b\x00b", "\x00b")
	// A longer one comes ahead of a lesser one.
	wantTwice(t, "aabzyxzyx", "zyx")
	wantTwice(t, "abzabzac", "abza")
	// It is told once, at however many places it stands.
	wantTwice(t, "ab.ab.cd:ab", "ab.")
	wantTwice(t, "ab1ab2ab3ab", "ab")
}

func TestPromise12WhatStandsTwiceSoLong(t *testing.T) {
	wantTwice(t, strings.Repeat(unlikeBytes(60), 2), unlikeBytes(60))
	wantTwice(t, unlikeBytes(119)+unlikeBytes(119)[:1], unlikeBytes(119)[:1])
	wantTwice(t, strings.Repeat("b", 60)+strings.Repeat("a", 60), strings.Repeat("a", 59))
	wantTwice(t, strings.Repeat("a", 61)+strings.Repeat("b", 59), strings.Repeat("a", 60))
	wantTwice(t, strings.Repeat("a", 59)+strings.Repeat("b", 61), strings.Repeat("b", 60))
}

func TestPromise12HowManyAreUnlike(t *testing.T) {
	wantDistinct(t, "ab", 3)
	wantDistinct(t, "aab", 5)
	wantDistinct(t, "abab", 7)
	wantDistinct(t, unlikeBytes(120), 7260)
	wantDistinct(t, strings.Repeat("a", 120), 120)
	wantDistinct(t, strings.Repeat("ab", 60), 239)
	wantDistinct(t, strings.Repeat("a", 119)+"b", 239)
}
