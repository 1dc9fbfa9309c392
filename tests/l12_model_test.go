package tests

import (
	"maps"
	"slices"
	"strings"
	"testing"

	"loop.example/g00274/impl"
)

// oracleEndings puts each ending where so many others are less.
func oracleEndings(s string) []int {
	l := make([]int, len(s))
	for k := range l {
		less := 0
		for other := range l {
			if s[other:] < s[k:] {
				less++
			}
		}
		l[less] = k
	}
	return l
}

func oracleCommon(s string) []int {
	l := oracleEndings(s)
	common := make([]int, len(l))
	for k := 1; k < len(l); k++ {
		one, other := s[l[k-1]:], s[l[k]:]
		for many := range min(len(one), len(other)) + 1 {
			if one[:many] == other[:many] {
				common[k] = many
			}
		}
	}
	return common
}

func oraclePlaces(s string, p string) []int {
	var places []int
	for k := range len(s) {
		if strings.HasPrefix(s[k:], p) {
			places = append(places, k)
		}
	}
	return places
}

// oracleHalvings counts how often a stretch is halved until nothing is left of it but where it is cut.
func oracleHalvings(lo int, hi int, cut int) int {
	if lo >= hi {
		return 0
	}
	mid := (lo + hi) / 2
	if mid < cut {
		return 1 + oracleHalvings(mid+1, hi, cut)
	}
	return 1 + oracleHalvings(lo, mid, cut)
}

// oracleHeld takes how many endings are less than p, and how many begin with it.
func oracleHeld(s string, p string) int {
	less := 0
	for k := range len(s) {
		if s[k:] < p {
			less++
		}
	}
	return oracleHalvings(0, len(s), less) + oracleHalvings(less, len(s), less+len(oraclePlaces(s, p)))
}

// oracleStretches counts at how many places each text stands.
func oracleStretches(s string) map[string]int {
	all := map[string]int{}
	for first := range len(s) {
		for end := first + 1; end <= len(s); end++ {
			all[s[first:end]]++
		}
	}
	return all
}

func oracleTwice(s string) string {
	longest := ""
	for text, places := range oracleStretches(s) {
		if places > 1 && (len(text) > len(longest) || len(text) == len(longest) && text < longest) {
			longest = text
		}
	}
	return longest
}

func oracleRanks(s string, k int) []int {
	unlike := map[string]int{}
	for first := range len(s) {
		unlike[s[first:min(first+k, len(s))]] = 0
	}
	for text := range unlike {
		for other := range unlike {
			if other < text {
				unlike[text]++
			}
		}
	}
	ranks := make([]int, len(s))
	for first := range ranks {
		ranks[first] = unlike[s[first:min(first+k, len(s))]]
	}
	return ranks
}

func wantSuffixes(t *testing.T, s string, want []int) {
	t.Helper()
	if got, ok := impl.SuffixesOf(s); !ok || !slices.Equal(got, want) {
		t.Errorf("SuffixesOf(%q) is %v %v, not %v", s, got, ok, want)
	}
	if is, ok := impl.IsSuffixes(s, want); !ok || !is {
		t.Errorf("IsSuffixes(%q, %v) is %v %v", s, want, is, ok)
	}
}

func wantCommon(t *testing.T, s string, want []int) {
	t.Helper()
	if got, ok := impl.CommonOf(s, oracleEndings(s)); !ok || !slices.Equal(got, want) {
		t.Errorf("CommonOf(%q) is %v %v, not %v", s, got, ok, want)
	}
}

func wantTwice(t *testing.T, s string, want string) {
	t.Helper()
	if got, ok := impl.LongestTwice(s); got != want || ok != (want != "") {
		t.Errorf("LongestTwice(%q) is %q %v, not %q", s, got, ok, want)
	}
}

func wantDistinct(t *testing.T, s string, want int) {
	t.Helper()
	if got, ok := impl.DistinctIn(s); !ok || got != want {
		t.Errorf("DistinctIn(%q) is %d %v, not %d", s, got, ok, want)
	}
}

// wantEndings asks for all that the endings tell, held against all of them taken one by one.
func wantEndings(t *testing.T, s string) {
	t.Helper()
	wantSuffixes(t, s, oracleEndings(s))
	wantCommon(t, s, oracleCommon(s))
	wantTwice(t, s, oracleTwice(s))
	wantDistinct(t, s, len(oracleStretches(s)))
}

func wantPlaces(t *testing.T, s string, p string, want []int, wantHeld int) {
	t.Helper()
	if got, held, ok := impl.FindIn(s, oracleEndings(s), p); !ok || !slices.Equal(got, want) || held != wantHeld {
		t.Errorf("%q in %q: FindIn is %v %d %v, not %v %d", p, s, got, held, ok, want, wantHeld)
	}
}

func wantFoundIn(t *testing.T, s string, p string) {
	t.Helper()
	wantPlaces(t, s, p, oraclePlaces(s, p), oracleHeld(s, p))
}

func wantNotFoundBy(t *testing.T, what string, s string, l []int, p string) {
	t.Helper()
	if got, held, ok := impl.FindIn(s, l, p); ok || held != 0 || len(got) != 0 {
		t.Errorf("%s: FindIn is %v %d %v", what, got, held, ok)
	}
}

// wantNoSuffixes asks for the answers to a text that is one, and a list that is not that of its endings.
func wantNoSuffixes(t *testing.T, what string, s string, l []int) {
	t.Helper()
	if is, ok := impl.IsSuffixes(s, l); !ok || is {
		t.Errorf("%s: IsSuffixes(%q) is %v %v", what, s, is, ok)
	}
	if got, ok := impl.CommonOf(s, l); ok || len(got) != 0 {
		t.Errorf("%s: CommonOf(%q) is %v %v", what, s, got, ok)
	}
	for _, p := range []string{"a", "\x00", "\xff", s, ""} {
		wantNotFoundBy(t, what, s, l, p)
	}
}

// wantTooLong asks each function of the chapter for its answer where the text goes beyond the limit.
func wantTooLong(t *testing.T, s string, l []int) {
	t.Helper()
	if got, ok := impl.SuffixesOf(s); ok || len(got) != 0 {
		t.Errorf("SuffixesOf %d bytes is %v %v", len(s), got, ok)
	}
	if is, ok := impl.IsSuffixes(s, l); ok || is {
		t.Errorf("IsSuffixes of %d bytes is %v %v", len(s), is, ok)
	}
	if got, ok := impl.CommonOf(s, l); ok || len(got) != 0 {
		t.Errorf("CommonOf %d bytes is %v %v", len(s), got, ok)
	}
	for _, p := range []string{s[:1], s[:120], s, ""} {
		wantNotFoundBy(t, "a long text", s, l, p)
	}
	if got, ok := impl.LongestTwice(s); ok || got != "" {
		t.Errorf("LongestTwice of %d bytes is %q %v", len(s), got, ok)
	}
	if got, ok := impl.DistinctIn(s); ok || got != 0 {
		t.Errorf("DistinctIn %d bytes is %d %v", len(s), got, ok)
	}
	for _, k := range []int{0, 1, 2, 120, 121} {
		wantNoRanks(t, s, k, 0)
		wantNoRanks(t, s, k, 1)
	}
}

func wantRanks(t *testing.T, s string, k int, doubled int, want []int) {
	t.Helper()
	if got, ok := impl.RankOf(s, k, doubled); !ok || !slices.Equal(got, want) {
		t.Errorf("RankOf(%q, %d, %d) is %v %v, not %v", s, k, doubled, got, ok, want)
	}
}

func wantNoRanks(t *testing.T, s string, k int, doubled int) {
	t.Helper()
	if got, ok := impl.RankOf(s, k, doubled); ok || len(got) != 0 {
		t.Errorf("RankOf %d bytes by %d, %d is %v %v", len(s), k, doubled, got, ok)
	}
}

func wantRanksBy(t *testing.T, s string, k int) {
	t.Helper()
	wantRanks(t, s, k, 0, oracleRanks(s, k))
	wantRanks(t, s, k, 1, oracleRanks(s, 2*k))
}

// unlikeBytes are so many, rising, of which no two are alike.
func unlikeBytes(many int) string {
	s := make([]byte, many)
	for k := range s {
		s[k] = byte(256 - many + k)
	}
	return string(s)
}

func turned(s string) string {
	b := []byte(s)
	slices.Reverse(b)
	return string(b)
}

// fibonacciText is one in which all stretches stand again and again, but not at the same distance.
func fibonacciText(length int) string {
	last, s := "b", "a"
	for len(s) < length {
		last, s = s, s+last
	}
	return s[:length]
}

// namedTexts are texts at the edges of what can be said of one, and ordinary ones.
func namedTexts() map[string]string {
	return map[string]string{
		"empty":                 "",
		"one byte":              "a",
		"a byte 0":              "\x00",
		"a byte 255":            "\xff",
		"two alike":             "aa",
		"two that rise":         "ab",
		"two that fall":         "ba",
		"banana":                "banana",
		"mississippi":           "mississippi",
		"blanks and lines":      "to be or\nnot to be",
		"all ends":              "\x00\xff\x00\x00\xff\xff\x00\xff",
		"0 at the end":          "a\x00a\x00\x00",
		"255 at the front":      "\xff\xffa\xff",
		"above 127":             "\x7f\x80\x7f\x80\x80a",
		"letters of many bytes": "éèéèé世界世",
		"a broken letter":       "\xe4\xb8a\xe4\xb8\x96\xe4",
		"one over and over":     strings.Repeat("a", 60),
		"just so long":          strings.Repeat("a", 120),
		"so long of bytes 0":    strings.Repeat("\x00", 120),
		"so long of bytes 255":  strings.Repeat("\xff", 120),
		"so long in turn":       strings.Repeat("ab", 60),
		"so long but the end":   strings.Repeat("a", 119) + "b",
		"so long, a lesser end": strings.Repeat("b", 119) + "a",
		"so long, twice":        strings.Repeat(unlikeBytes(60), 2),
		"so long, that rises":   unlikeBytes(120),
		"so long, that falls":   turned(unlikeBytes(120)),
		"so long, of two":       fibonacciText(120),
		"a middle unlike":       strings.Repeat("a", 59) + "b" + strings.Repeat("a", 60),
	}
}

func someTexts() []string {
	all := namedTexts()
	var texts []string
	for _, what := range slices.Sorted(maps.Keys(all)) {
		texts = append(texts, all[what])
	}
	return texts
}

// textOf tells a text of so many bytes out of those.
func (d *dice) textOf(bytes string, length int) string {
	s := ""
	for range length {
		s += d.pick(bytes)
	}
	return s
}

// ending tells texts of which stretches stand again, by few unlike bytes or by a piece that is laid again.
func (d *dice) ending() string {
	bytes := []string{"a", "ab", "abc", "\x00\xff", "\x00\x01\xfe\xff", "abcdefghijklmnopqrstuvwxyz", unlikeBytes(256)}[d.below(7)]
	length := []int{d.below(8), d.below(40), 119, 120, d.below(121)}[d.below(5)]
	s := d.textOf(bytes, length)
	if length > 2 && d.below(3) == 0 {
		piece := s[:1+d.below(length/2)]
		s = s[:length-len(piece)] + piece
	}
	return s
}

// eachText tells all texts of at most so many bytes out of those.
func eachText(bytes string, longest int) []string {
	all := []string{""}
	for k := 0; k < len(all); k++ {
		if len(all[k]) == longest {
			break
		}
		for at := range len(bytes) {
			all = append(all, all[k]+bytes[at:at+1])
		}
	}
	return all
}
