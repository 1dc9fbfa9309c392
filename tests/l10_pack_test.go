package tests

import (
	"slices"
	"strings"
	"testing"

	"loop.example/g00274/impl"
)

func TestPromise10PackedPostings(t *testing.T) {
	wantPacked(t, nil, "")
	wantPacked(t, []impl.Posting{}, "")
	wantPacked(t, listFrom(0, 1), "\x00\x01")
	wantPacked(t, listFrom(0, 100), "\x00\x64")
	wantPacked(t, listFrom(1, 1), "\x01\x01")
	wantPacked(t, listFrom(127, 2), "\x7f\x02")
	wantPacked(t, listFrom(128, 2), "\x80\x01\x02")
	wantPacked(t, listFrom(129, 2), "\x81\x01\x02")
	wantPacked(t, listFrom(255, 2), "\xff\x01\x02")
	wantPacked(t, listFrom(256, 2), "\x80\x02\x02")
	wantPacked(t, listFrom(9999, 3), "\x8f\x4e\x03")
	wantPacked(t, listFrom(10000, 100), "\x90\x4e\x64")
	wantPacked(t, listFrom(0, 1, 1, 2, 2, 3), "\x00\x01\x00\x02\x00\x03")
	wantPacked(t, listFrom(0, 1, 200, 2), "\x00\x01\xc7\x01\x02")
	wantPacked(t, listFrom(5, 1, 133, 1), "\x05\x01\x7f\x01")
	wantPacked(t, listFrom(5, 1, 134, 1), "\x05\x01\x80\x01\x01")
	wantPacked(t, listFrom(0, 1, 10000, 1), "\x00\x01\x8f\x4e\x01")
	wantPacked(t, listFrom(9999, 1, 10000, 1), "\x8f\x4e\x01\x00\x01")
	wantPacked(t, listFrom(127, 7, 128, 8, 10000, 9), "\x7f\x07\x00\x08\x8f\x4d\x09")
}

func TestPromise10EachTextAndTimesPacked(t *testing.T) {
	for text := range 10001 {
		l := listFrom(text, 1+text%100)
		want, _ := oraclePack(l)
		wantPacked(t, l, want)
		if text > 0 {
			l = listFrom(0, 1+text%100, text, 100)
			want, _ = oraclePack(l)
			wantPacked(t, l, want)
		}
	}
	for times := 1; times <= 100; times++ {
		wantPacked(t, listFrom(3, times, 4, 101-times), string([]byte{3, byte(times), 0, byte(101 - times)}))
	}
}

func TestPromise10MostPostingsPacked(t *testing.T) {
	for _, between := range []int{0, 1, 48} {
		l := manyPostings(201, between)
		want, _ := oraclePack(l[:200])
		wantPacked(t, l[:200], want)
		wantNotPacked(t, "a posting too many", l)
		wantNotUnpacked(t, "a posting too many", want+"\x00\x01")
	}
	// Long ones, too: of 67 that lie far apart, and of the others one behind the other.
	var long []impl.Posting
	for k := range 200 {
		long = append(long, impl.Posting{Text: min(k, 67)*129 + k, Times: 100})
	}
	want, ok := oraclePack(long)
	if !ok || len(want) < 400+66 {
		t.Fatalf("they have %d bytes", len(want))
	}
	wantPacked(t, long, want)
	wantNotUnpacked(t, "a posting too many", want+"\x00\x01")
}

// brokenLists break one rule each; they are none of a text up to 10000 either.
func brokenLists() map[string][]impl.Posting {
	return map[string][]impl.Posting{
		"a text below 0":                   listFrom(-1, 1),
		"a text below 0 ahead":             listFrom(-1, 1, 0, 1),
		"the least text":                   listFrom(least, 1),
		"a text behind 10000":              listFrom(10001, 1),
		"a text behind 10000 and others":   listFrom(0, 1, 10000, 1, 10001, 1),
		"a text of two bytes' most":        listFrom(16383, 1),
		"a text of three bytes":            listFrom(16384, 1),
		"the greatest text":                listFrom(greatest, 1),
		"the greatest text behind another": listFrom(0, 1, greatest, 1),
		"from the least to the greatest":   listFrom(least, 1, greatest, 1),
		"a text twice":                     listFrom(7, 1, 7, 1),
		"a text twice, further behind":     listFrom(0, 1, 7, 1, 7, 2),
		"texts that fall":                  listFrom(7, 1, 6, 1),
		"texts that fall, further behind":  listFrom(0, 1, 7, 1, 6, 1, 8, 1),
		"a text of the far front":          listFrom(5, 1, 7, 1, 0, 1),
		"no times":                         listFrom(0, 0),
		"no times behind another":          listFrom(0, 1, 1, 0),
		"no times ahead of another":        listFrom(0, 0, 1, 1),
		"times below 0":                    listFrom(0, -1),
		"101 times":                        listFrom(0, 101),
		"101 times behind another":         listFrom(0, 1, 1, 101),
		"128 times":                        listFrom(0, 128),
		"256 times and one":                listFrom(0, 257),
		"the greatest times":               listFrom(0, greatest),
		"the least times":                  listFrom(0, least),
	}
}

func TestPromise10ListsThatAreNotPacked(t *testing.T) {
	for what, l := range brokenLists() {
		wantNotPacked(t, what, l)
	}
	wantNotPacked(t, "many too many", manyPostings(10000, 0))
	wantNotPacked(t, "a million", make([]impl.Posting, 1000000))
}

func TestPromise10BytesOfNoList(t *testing.T) {
	for what, s := range map[string]string{
		"a text alone":                       "\x00",
		"a text alone behind another":        "\x00\x01\x05",
		"a text that is cut off":             "\x80",
		"a text that is cut off, behind":     "\x00\x01\x80",
		"times that are cut off":             "\x00\x80",
		"times that are cut off, behind":     "\x80\x01\x81",
		"a text alone, of two bytes":         "\x80\x01",
		"a needless 0 in a text":             "\x80\x00\x01",
		"a needless 0 in a text of 5":        "\x85\x00\x01",
		"two needless 0 in a text":           "\x85\x80\x00\x01",
		"a needless 0 behind two bytes":      "\x80\x81\x00\x01",
		"a needless 0 in times":              "\x05\x81\x00",
		"two needless 0 in times":            "\x05\x81\x80\x00",
		"a needless 0 behind another":        "\x00\x01\x85\x00\x01",
		"a needless 0 in times, behind":      "\x00\x01\x05\x81\x00",
		"no times":                           "\x00\x00",
		"no times behind another":            "\x00\x01\x00\x00",
		"no times ahead of another":          "\x00\x00\x00\x01",
		"101 times":                          "\x00\x65",
		"127 times":                          "\x00\x7f",
		"128 times":                          "\x00\x80\x01",
		"times of three bytes":               "\x00\x81\x80\x01",
		"the text 10001":                     "\x91\x4e\x01",
		"the text 10001 behind another":      "\x00\x01\x90\x4e\x01",
		"the text 10001 behind 10000":        "\x90\x4e\x01\x00\x01",
		"two that are too many together":     "\x88\x27\x01\x88\x27\x01",
		"the greatest text of two bytes":     "\xff\x7f\x01",
		"the least text of three bytes":      "\x80\x80\x01\x01",
		"a text that wraps to 0 at 32 bits":  "\x80\x80\x80\x80\x10\x01",
		"a text that wraps below 0":          "\xff\xff\xff\xff\xff\xff\xff\xff\xff\x01\x01",
		"a text that wraps to 0 at 64 bits":  "\x80\x80\x80\x80\x80\x80\x80\x80\x80\x02\x01",
		"a text that is shifted out":         "\x80\x80\x80\x80\x80\x80\x80\x80\x80\x80\x01\x01",
		"a text that is shifted far out":     strings.Repeat("\x80", 1000) + "\x01\x01",
		"times that are shifted out":         "\x00\x81\x80\x80\x80\x80\x80\x80\x80\x80\x80\x01",
		"a text behind that wraps below 0":   "\x05\x01\xff\xff\xff\xff\xff\xff\xff\xff\xff\x01\x01",
		"many that are good, and half a one": strings.Repeat("\x00\x01", 199) + "\x00",
	} {
		if _, ok := oracleUnpack(s); ok {
			t.Errorf("%s: %x is a list", what, s)
		}
		wantNotUnpacked(t, what, s)
	}
}

func wantUnpacked(t *testing.T, s string) bool {
	t.Helper()
	want, wantOk := oracleUnpack(s)
	got, ok := impl.UnpackPostings(s)
	if ok != wantOk || !slices.Equal(got, want) {
		t.Errorf("UnpackPostings(%x) is %v %v, not %v %v", s, got, ok, want, wantOk)
	}
	if again, packed := impl.PackPostings(got); ok && (!packed || again != s) {
		t.Errorf("PackPostings(%v) is %x %v, not %x", got, again, packed, s)
	}
	return ok
}

func TestPromise10AllRowsOfFewBytes(t *testing.T) {
	wantUnpacked(t, "")
	good := 0
	for first := range 256 {
		wantUnpacked(t, string([]byte{byte(first)}))
		for second := range 256 {
			if wantUnpacked(t, string([]byte{byte(first), byte(second)})) {
				good++
			}
		}
	}
	if good != 128*100 {
		t.Errorf("%d rows of two bytes are lists", good)
	}
}

func TestPromise10RowsOfByteEdges(t *testing.T) {
	edges := []byte{0, 1, 78, 79, 100, 101, 127, 128, 129, 144, 145, 255}
	var row func(s string)
	row = func(s string) {
		wantUnpacked(t, s)
		if len(s) == 5 {
			return
		}
		for _, c := range edges {
			row(s + string([]byte{c}))
		}
	}
	row("")
}

func TestPromise10ManyListsComeBack(t *testing.T) {
	d := &dice{state: 104}
	good := 0
	for range 4000 {
		l := d.postings()
		want, ok := oraclePack(l)
		if !ok {
			wantNotPacked(t, "it is broken", l)
			continue
		}
		wantPacked(t, l, want)
		good++
		for k := range len(want) {
			wantUnpacked(t, want[:k])
			wantUnpacked(t, want[k:])
			wantUnpacked(t, want[:k]+string([]byte{byte(d.below(256))})+want[k+1:])
		}
	}
	if good < 3000 {
		t.Errorf("only %d are good", good)
	}
}

// The lists of an index come back from their bytes, too.
func TestPromise10ListsOfAnIndexComeBack(t *testing.T) {
	d := &dice{state: 105}
	for range 100 {
		w := wantIndex(t, d.pages(9))
		for _, e := range w.Entries {
			want, _ := oraclePack(e.List)
			wantPacked(t, e.List, want)
		}
	}
}
