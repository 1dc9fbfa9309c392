package tests

import (
	"fmt"
	"slices"
	"testing"

	"loop.example/g00274/impl"
)

// tenOps have numbers that are told again, one that comes behind a greater one, and some that are not Fine.
func tenOps() []impl.Op {
	return []impl.Op{
		putNumber(1, 1, 5, 10), putNumber(2, 4, 6, 20), putNumber(1, 1, 5, 11), delOp(1, 2, 6), putNumber(2, 3, 7, 30),
		delOp(1, 3, 9), putNumber(2, 5, 6, 21), delOp(1, 2, 6), delOp(2, 6, 5), putNumber(0, 1, 0, 40),
	}
}

// tenDone is what they make: the number 2 of the session 1 took 6 away once, not again behind the number 5 of the session 2.
func tenDone() impl.Base {
	return impl.Base{
		Applied:  10,
		Docs:     []impl.Stored{{Id: 0, Doc: numberTree(40).value()}, {Id: 6, Doc: numberTree(21).value()}},
		Sessions: []impl.Session{{Id: 0, No: 1, Fine: true}, {Id: 1, No: 3}, {Id: 2, No: 6, Fine: true}},
	}
}

func TestPromise16FoldOpsOfTen(t *testing.T) {
	wantFolded(t, "ten", tenOps(), tenDone())
	wantReplayed(t, "ten from 0", impl.Base{}, 0, tenOps(), tenDone())
	step := impl.Base{}
	for k, o := range tenOps() {
		next, ok := impl.ApplyOp(step, k, o)
		if !ok {
			t.Fatalf("entry %d is not taken", k)
		}
		step = next
		wantFolded(t, "the first ones", tenOps()[:k+1], step)
	}
	wantBase(t, "one by one", step, true, tenDone())
}

// Entries that are told again, from any index on, change nothing; further ones are done as if they had been told once.
func TestPromise16EntriesToldAgain(t *testing.T) {
	l := tenOps()
	for done := range len(l) + 1 {
		b := folded(t, l[:done])
		for from := range len(l) + 1 {
			for end := from; end <= len(l); end++ {
				what := fmt.Sprintf("%d are done, %d to %d are told", done, from, end)
				switch {
				case from > done && end > from:
					wantNotReplayed(t, what, b, from, l[from:end])
				case end <= done || end == from:
					wantReplayed(t, what, b, from, l[from:end], b)
				default:
					wantReplayed(t, what, b, from, l[from:end], folded(t, l[:end]))
				}
			}
		}
	}
}

// Entries below Applied change nothing, whatever they tell now.
func TestPromise16OtherEntriesBelowApplied(t *testing.T) {
	b := tenDone()
	for from := range 10 {
		for many := range 10 - from + 1 {
			l := slices.Repeat([]impl.Op{putNumber(9, 1000, 50, 7)}, many)
			wantReplayed(t, "others", b, from, l, b)
		}
		l := append(slices.Repeat([]impl.Op{delOp(0, 1000, 0)}, 10-from), putNumber(0, 2, 3, 4))
		want, _ := impl.ApplyOp(b, 10, putNumber(0, 2, 3, 4))
		wantReplayed(t, "others, and one more", b, from, l, want)
	}
}

func TestPromise16ReplayOpsOfNoEntries(t *testing.T) {
	for what, b := range goodBases() {
		for _, from := range []int{0, b.Applied / 2, b.Applied, b.Applied + 1} {
			for _, none := range [][]impl.Op{nil, {}, make([]impl.Op, 0, 9)} {
				wantReplayed(t, what, b, from, none, b)
			}
		}
	}
	for _, none := range [][]impl.Op{nil, {}, make([]impl.Op, 0, 9)} {
		wantFolded(t, "none", none, impl.Base{})
	}
	// Each of no entries tells true, whatever index a first one would have.
	for _, from := range []int{least, -1, 60, 61, greatest} {
		wantReplayed(t, "no entries", busyBase(), from, nil, busyBase())
	}
}

func TestPromise16ReplayOpsFromNoSuchIndex(t *testing.T) {
	for _, from := range []int{least, least + 1, -100, -2, -1, 11, 12, 59, 60, 61, greatest - 1, greatest} {
		for many := 1; many <= 10; many++ {
			wantNotReplayed(t, fmt.Sprint("from ", from), tenDone(), from, tenOps()[:many])
		}
		wantNotReplayed(t, fmt.Sprint("from ", from), tenDone(), from, slices.Repeat(tenOps(), 12))
	}
}

func TestPromise16EntriesThatReachBeyondTheLog(t *testing.T) {
	for applied := 55; applied <= 60; applied++ {
		b := crowdedBase(applied, 3, 3)
		for from := 50; from <= 62; from++ {
			for many := 1; many <= 12; many++ {
				var l []impl.Op
				for k := range many {
					l = append(l, putNumber(2, 11+k, k, k))
				}
				taken := wantReplayedAsTold(t, fmt.Sprintf("%d from %d on %d", many, from, applied), b, from, l)
				if taken != (from <= applied && from+many <= 60) {
					t.Errorf("%d from %d on %d: the logbook tells %v", many, from, applied, taken)
				}
			}
		}
	}
}

func TestPromise16FoldOpsOfEachMany(t *testing.T) {
	for _, many := range []int{0, 1, 2, 59, 60, 61, 62, 120, 100000} {
		var l []impl.Op
		for k := range many {
			l = append(l, putNumber(k%3, 1+k%1000, k%5, k%7))
		}
		what := fmt.Sprint(many, " ops")
		want, ok := oracleReplay(impl.Base{}, 0, l[:min(many, 60)])
		if !ok {
			t.Fatal(what)
		}
		if many > 60 {
			wantNotFolded(t, what, l)
			wantNotReplayed(t, what, impl.Base{}, 0, l)
			wantNotReplayed(t, what, want, 0, l)
			continue
		}
		wantFolded(t, what, l, want)
		wantReplayed(t, what, want, 0, l, want)
		wantLogbook(t, what, folded(t, l), logbookOf(want))
	}
	for _, many := range []int{60, 61} {
		l := slices.Repeat([]impl.Op{delOp(1, 1, 1)}, many)
		l[many-1] = impl.Op{}
		wantNotFolded(t, "the last one is not good", l)
	}
}

// One op that is not good, at any place, told again or for the first time.
func TestPromise16OneOpIsNotGood(t *testing.T) {
	for what, bad := range badOps() {
		for k := range 11 {
			l := slices.Insert(tenOps(), k, bad)
			wantNotFolded(t, what, l)
			wantNotReplayed(t, what, impl.Base{}, 0, l)
			wantNotReplayed(t, what, tenDone(), 0, l)
			wantNotReplayed(t, what, baseWith(func(b *impl.Base) { b.Applied = 5 }), 3, l)
			wantNotReplayed(t, what, baseWith(func(b *impl.Base) { b.Applied = 60 }), 0, l)
			wantNotReplayed(t, what, tenDone(), 0, []impl.Op{bad})
			wantNotFolded(t, what, []impl.Op{bad})
		}
	}
}

// A number of a session does what it does once: what is told twice in a log is done as if it were told once.
func TestPromise16NumbersToldTwiceInALog(t *testing.T) {
	d := &dice{state: 163}
	for range 500 {
		var once, often []impl.Op
		for k := range 1 + d.below(20) {
			o := d.op(5, 4, 1)
			o.No = k + 1
			once = append(once, o)
			often = append(often, o)
			for range d.below(3) {
				earlier := once[d.below(len(once))]
				if d.below(3) == 0 {
					// Another op with a number that its session has told.
					earlier.Id = d.below(5)
				}
				if slices.ContainsFunc(once, func(x impl.Op) bool { return x.Session == earlier.Session && x.No >= earlier.No }) {
					often = append(often, earlier)
				}
			}
		}
		if len(often) > 60 {
			continue
		}
		want := folded(t, once)
		want.Applied = len(often)
		wantFolded(t, "told twice", often, want)
	}
}

// op draws a good one; few ids, sessions and numbers are alike often.
func (d *dice) op(ids int, sessions int, numbers int) impl.Op {
	o := delOp(d.below(sessions), 1+d.below(numbers), d.below(ids))
	if d.below(3) > 0 {
		o.Kind, o.Doc = impl.DoPut, d.small(2).value()
	}
	return o
}

// ops draws a log, in every other one of which numbers rise.
func (d *dice) ops(many int) []impl.Op {
	ids, sessions, numbers := 1+d.below(101), 1+d.below(14), 1+d.below(60)
	rise := d.below(2) == 0
	var l []impl.Op
	for k := range many {
		o := d.op(ids, sessions, numbers)
		if rise {
			o.No = 16*k + d.below(32) + 1
		}
		l = append(l, o)
	}
	return l
}

func TestPromise16DrawnOpsAsTold(t *testing.T) {
	d := &dice{state: 164}
	full, crowded, notFine := 0, 0, 0
	for range 1500 {
		l := d.ops(d.below(61))
		h := logbookOf(impl.Base{})
		for k, o := range l {
			if !h.enters(k, o) {
				t.Fatalf("%v is not taken", o)
			}
		}
		b := folded(t, l)
		wantLogbook(t, "drawn", b, h)
		from := d.below(len(l) + 1)
		wantReplayed(t, "told again", b, from, l[from:from+d.below(len(l)-from+1)], b)
		part := d.below(len(l) + 1)
		from = d.below(part + 1)
		wantReplayed(t, "told again and further", folded(t, l[:part]), from, l[from:], b)
		if len(b.Docs) == 20 {
			full++
		}
		if len(b.Sessions) == 8 {
			crowded++
		}
		if slices.ContainsFunc(b.Sessions, func(s impl.Session) bool { return !s.Fine }) {
			notFine++
		}
	}
	if full < 20 || crowded < 200 || notFine < 200 {
		t.Errorf("%d have no room for a document, %d none for a session, %d are not Fine", full, crowded, notFine)
	}
}

func TestPromise16DrawnEntriesOnDrawnBases(t *testing.T) {
	d := &dice{state: 165}
	taken := 0
	for range 4000 {
		b := crowdedBase(d.below(61), d.below(21), d.below(9))
		l := d.ops(d.below(8))
		if len(l) > 0 && d.below(10) == 0 {
			l[d.below(len(l))].No = []int{0, 1001, -1, 1000}[d.below(4)]
		}
		from := b.Applied + d.below(6) - 4
		if wantReplayedAsTold(t, "drawn", b, from, l) {
			taken++
		}
	}
	if taken < 1500 || taken > 3700 {
		t.Errorf("%d are taken", taken)
	}
}
