package tests

import (
	"fmt"
	"slices"
	"testing"

	"loop.example/g00274/impl"
)

// someOps are good ones, of which each would change the busy base at its Applied.
func someOps() map[string]impl.Op {
	return map[string]impl.Op{
		"put, new":              putNumber(3, 6, 50, 1),
		"put, there":            putNumber(3, 6, 5, 1),
		"delete, there":         delOp(3, 6, 5),
		"delete, not there":     delOp(3, 6, 50),
		"put, a new session":    putNumber(4, 1, 50, 1),
		"delete, a new session": delOp(4, 1, 5),
		"a No that is told":     putNumber(3, 5, 50, 1),
		"a No below":            delOp(40, 1, 5),
	}
}

// badOps are such as break one rule.
func badOps() map[string]impl.Op {
	return map[string]impl.Op{
		"nothing":         {},
		"no kind":         {Id: 1, Session: 1, No: 1},
		"Kind 3":          {Kind: 3, Id: 1, Session: 1, No: 1},
		"Id -1":           delOp(1, 1, -1),
		"Id 101":          putNumber(1, 1, 101, 1),
		"Session -1":      delOp(-1, 1, 1),
		"Session 101":     putNumber(101, 1, 1, 1),
		"No 0":            delOp(1, 0, 1),
		"No 1001":         putNumber(1, 1001, 1, 1),
		"put, no Doc":     putOp(1, 1, 1, impl.Value{}),
		"put, a bad Doc":  putOp(1, 1, 1, numberTree(1000000001).value()),
		"delete with Doc": {Kind: impl.DoDel, Id: 1, Doc: numberTree(1).value(), Session: 1, No: 1},
	}
}

func TestPromise16ApplyOpOfEachIndex(t *testing.T) {
	for _, applied := range []int{0, 1, 9, 30, 59, 60} {
		b := baseWith(func(b *impl.Base) { b.Applied = applied })
		for _, index := range []int{least, -60, -1, 0, 1, applied - 1, applied, applied + 1, 58, 59, 60, 61, 1000, greatest} {
			for what, o := range someOps() {
				what = fmt.Sprintf("%s, %d of %d", what, index, applied)
				switch {
				case index < 0 || index > applied || index == 60:
					wantNotApplied(t, what, b, index, o)
				case index < applied:
					wantApplied(t, what, b, index, o, b)
				default:
					want, ok := oracleReplay(b, index, []impl.Op{o})
					if !ok || want.Applied != applied+1 {
						t.Fatalf("%s: the logbook tells %v %v", what, want, ok)
					}
					wantApplied(t, what, b, index, o, want)
				}
			}
			for what, o := range badOps() {
				wantNotApplied(t, fmt.Sprintf("%s, %d of %d", what, index, applied), b, index, o)
			}
		}
	}
}

func TestPromise16ApplyOpAtTheEndOfTheLog(t *testing.T) {
	b := crowdedBase(59, 2, 1)
	want := impl.Base{Applied: 60, Docs: b.Docs[1:], Sessions: []impl.Session{{Id: 2, No: 11, Fine: true}}}
	wantApplied(t, "the last entry", b, 59, delOp(2, 11, 1), want)
	wantApplied(t, "told again", want, 59, delOp(2, 12, 3), want)
	wantApplied(t, "told again", want, 0, delOp(2, 12, 3), want)
	wantNotApplied(t, "one more", want, 60, delOp(2, 12, 3))
	wantNotApplied(t, "two more", want, 61, delOp(2, 12, 3))
	wantNotApplied(t, "one too far", b, 60, delOp(2, 12, 3))
}

// The session 3 is at its number 5, which was not Fine, the session 40 at 999, which was.
func TestPromise16ApplyOpOfEachNo(t *testing.T) {
	for _, c := range []struct{ session, no int }{{3, 5}, {40, 999}} {
		told := baseWith(func(b *impl.Base) { b.Applied = 10 })
		for _, no := range []int{1, 2, c.no - 1, c.no} {
			for what, o := range map[string]impl.Op{"put, new": putNumber(c.session, no, 50, 1), "put, there": putNumber(c.session, no, 7, 1), "delete, there": delOp(c.session, no, 7), "delete, not there": delOp(c.session, no, 50)} {
				wantApplied(t, what, busyBase(), 9, o, told)
			}
		}
		for _, no := range []int{c.no + 1, 1000} {
			at := slices.IndexFunc(told.Sessions, func(s impl.Session) bool { return s.Id == c.session })
			done := func(fine bool, docs ...impl.Stored) impl.Base {
				return baseWith(func(b *impl.Base) {
					b.Applied, b.Docs = 10, docs
					b.Sessions[at] = impl.Session{Id: c.session, No: no, Fine: fine}
				})
			}
			was, fresh := busyBase().Docs, impl.Stored{Id: 50, Doc: numberTree(1).value()}
			wantApplied(t, "put, new", busyBase(), 9, putNumber(c.session, no, 50, 1), done(true, was[0], was[1], was[2], fresh, was[3]))
			wantApplied(t, "put, there", busyBase(), 9, putNumber(c.session, no, 5, 1), done(true, was[0], impl.Stored{Id: 5, Doc: fresh.Doc}, was[2], was[3]))
			wantApplied(t, "put, there and the same", busyBase(), 9, putOp(c.session, no, 5, was[1].Doc), done(true, was...))
			wantApplied(t, "delete, there", busyBase(), 9, delOp(c.session, no, 7), done(true, was[0], was[1], was[3]))
			wantApplied(t, "delete, not there", busyBase(), 9, delOp(c.session, no, 50), done(false, was...))
		}
	}
}

func TestPromise16ApplyOpOfTheGreatestNo(t *testing.T) {
	last := baseWith(func(b *impl.Base) { b.Applied = 10 })
	for _, no := range []int{1, 999, 1000} {
		wantApplied(t, "a session that can do no more", busyBase(), 9, delOp(100, no, 0), last)
	}
	wantNotApplied(t, "beyond", busyBase(), 9, delOp(100, 1001, 0))
}

// Documents have the ids 1, 3, 5 and so on: each place ahead of, between and behind them is asked for.
func TestPromise16ApplyOpOfEachId(t *testing.T) {
	for many := range 21 {
		b := crowdedBase(3, many, 1)
		for id := range 2*many + 3 {
			at, there := id/2, id%2 == 1 && id < 2*many
			put := impl.Base{Applied: 4, Docs: slices.Clone(b.Docs), Sessions: []impl.Session{{Id: 2, No: 12, Fine: true}}}
			cut := impl.Base{Applied: 4, Docs: slices.Clone(b.Docs), Sessions: []impl.Session{{Id: 2, No: 12, Fine: there}}}
			fresh := impl.Stored{Id: id, Doc: textTree("new").value()}
			switch {
			case there:
				put.Docs[at] = fresh
				cut.Docs = slices.Delete(cut.Docs, at, at+1)
			case many < 20:
				put.Docs = slices.Insert(put.Docs, min(at, many), fresh)
			default:
				put.Sessions[0].Fine = false
			}
			wantApplied(t, fmt.Sprintf("put %d of %d", id, many), b, 3, putOp(2, 12, id, fresh.Doc), put)
			wantApplied(t, fmt.Sprintf("delete %d of %d", id, many), b, 3, delOp(2, 12, id), cut)
		}
	}
}

func TestPromise16ApplyOpOfIdsAtTheEnds(t *testing.T) {
	b := crowdedBase(0, 2, 1)
	first, last := impl.Stored{Doc: numberTree(9).value()}, impl.Stored{Id: 100, Doc: numberTree(9).value()}
	session := []impl.Session{{Id: 2, No: 11, Fine: true}}
	wantApplied(t, "put 0", b, 0, putNumber(2, 11, 0, 9), impl.Base{Applied: 1, Docs: []impl.Stored{first, b.Docs[0], b.Docs[1]}, Sessions: session})
	wantApplied(t, "put 100", b, 0, putNumber(2, 11, 100, 9), impl.Base{Applied: 1, Docs: []impl.Stored{b.Docs[0], b.Docs[1], last}, Sessions: session})
	wantApplied(t, "delete 0", impl.Base{Docs: []impl.Stored{first}}, 0, delOp(2, 11, 0), impl.Base{Applied: 1, Sessions: session})
	wantApplied(t, "delete 100", impl.Base{Docs: []impl.Stored{last}}, 0, delOp(2, 11, 100), impl.Base{Applied: 1, Sessions: session})
}

// Where a document goes there is room again.
func TestPromise16RoomForADocument(t *testing.T) {
	b := crowdedBase(0, 20, 1)
	full := b
	full.Applied, full.Sessions = 1, []impl.Session{{Id: 2, No: 11}}
	wantApplied(t, "no room", b, 0, putNumber(2, 11, 0, 7), full)
	less := impl.Base{Applied: 2, Docs: b.Docs[:19], Sessions: []impl.Session{{Id: 2, No: 12, Fine: true}}}
	wantApplied(t, "one goes", full, 1, delOp(2, 12, 39), less)
	again := impl.Base{Applied: 3, Docs: slices.Insert(slices.Clone(less.Docs), 0, impl.Stored{Doc: numberTree(7).value()}), Sessions: []impl.Session{{Id: 2, No: 13, Fine: true}}}
	wantApplied(t, "there is room", less, 2, putNumber(2, 13, 0, 7), again)
	told := less
	told.Applied = 3
	wantApplied(t, "the number that was not Fine is not done again", less, 2, putNumber(2, 11, 0, 7), told)
	again.Applied = 4
	wantReplayed(t, "all of it", b, 0, []impl.Op{putNumber(2, 11, 0, 7), delOp(2, 12, 39), putNumber(2, 11, 0, 7), putNumber(2, 13, 0, 7)}, again)
}

// Sessions have the ids 2, 4, 6 and so on: each place ahead of, between and behind them is asked for.
func TestPromise16ApplyOpOfEachSession(t *testing.T) {
	for many := range 9 {
		b := crowdedBase(3, 2, many)
		for id := range 2*many + 4 {
			there := id > 0 && id%2 == 0 && id <= 2*many
			done := func(fine bool) []impl.Session {
				l := slices.DeleteFunc(slices.Clone(b.Sessions), func(s impl.Session) bool { return s.Id == id })
				if there || many < 8 {
					l = append(l, impl.Session{Id: id, No: 11, Fine: fine})
				}
				slices.SortFunc(l, func(x impl.Session, y impl.Session) int { return x.Id - y.Id })
				return l
			}
			put := impl.Base{Applied: 4, Docs: b.Docs, Sessions: done(true)}
			cut := impl.Base{Applied: 4, Docs: b.Docs, Sessions: done(true)}
			if there || many < 8 {
				put.Docs = []impl.Stored{b.Docs[0], {Id: 2, Doc: numberTree(7).value()}, b.Docs[1]}
				cut.Docs = b.Docs[1:]
			}
			what := fmt.Sprintf("the session %d of %d", id, many)
			wantApplied(t, what, b, 3, putNumber(id, 11, 2, 7), put)
			wantApplied(t, what, b, 3, delOp(id, 11, 1), cut)
			wantApplied(t, what, b, 3, delOp(id, 11, 2), impl.Base{Applied: 4, Docs: b.Docs, Sessions: done(false)})
		}
	}
}

// A session for which there is no room does nothing, whatever its number, also where documents have none either.
func TestPromise16NoRoomForASession(t *testing.T) {
	for _, docs := range []int{0, 1, 19, 20} {
		b := crowdedBase(5, docs, 8)
		want := crowdedBase(6, docs, 8)
		for _, session := range []int{0, 1, 3, 15, 17, 100} {
			for _, no := range []int{1, 10, 11, 1000} {
				wantApplied(t, "put, new", b, 5, putNumber(session, no, 0, 7), want)
				wantApplied(t, "put, there", b, 5, putNumber(session, no, 1, 7), want)
				wantApplied(t, "delete", b, 5, delOp(session, no, 1), want)
			}
			wantNoAnswer(t, "no room", want, session, 1)
		}
	}
	seven := crowdedBase(5, 20, 7)
	eight := crowdedBase(6, 20, 7)
	eight.Sessions = append(eight.Sessions, impl.Session{Id: 100, No: 1})
	wantApplied(t, "room for a session, none for the document", seven, 5, putNumber(100, 1, 0, 7), eight)
}

func TestPromise16ApplyOpAtTheFirstNo(t *testing.T) {
	for _, no := range []int{1, 2, 999, 1000} {
		for _, session := range []int{0, 1, 99, 100} {
			put := putNumber(session, no, 5, 6)
			wantApplied(t, "put", impl.Base{}, 0, put, firstDone(put))
			wantApplied(t, "delete", impl.Base{}, 0, delOp(session, no, 5), firstDone(delOp(session, no, 5)))
		}
	}
}

func TestPromise16AnswerForEachNumber(t *testing.T) {
	b := busyBase()
	for _, s := range b.Sessions {
		for _, no := range []int{least, -1000, -1, 0, 1, 2, s.No - 1, s.No, s.No + 1, 1000, 1001, greatest} {
			what := fmt.Sprint("session ", s.Id)
			switch {
			case no > s.No:
				wantNoAnswer(t, what, b, s.Id, no)
			case no == s.No:
				wantAnswer(t, what, b, s.Id, no, true, s.Fine)
			default:
				wantAnswer(t, what, b, s.Id, no, false, false)
			}
		}
	}
	for _, session := range []int{least, -1, 1, 2, 4, 39, 41, 99, 101, greatest} {
		for _, no := range []int{least, -1, 0, 1, 5, 999, 1000, 1001, greatest} {
			wantNoAnswer(t, "no such session", b, session, no)
			wantNoAnswer(t, "no session at all", impl.Base{}, session, no)
		}
	}
}

func TestPromise16DocInOfEachId(t *testing.T) {
	b := busyBase()
	for id, text := range map[int]string{0: `{"a":1}`, 5: `"five"`, 7: `[7,[]]`, 100: "null"} {
		v, ok := impl.DocIn(b, id)
		if s, _ := impl.ValueText(v); s != text || !ok {
			t.Errorf("DocIn %d is %q %v, not %q", id, s, ok, text)
		}
	}
	for _, id := range append(anyNumbers(), 6, 50, 99, 101) {
		if id != 0 && id != 5 && id != 7 && id != 100 {
			wantNoDoc(t, "not there", b, id)
		}
		wantNoDoc(t, "none at all", impl.Base{}, id)
	}
}
