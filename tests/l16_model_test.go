package tests

import (
	"maps"
	"slices"
	"testing"

	"loop.example/g00274/impl"
)

func putOp(session int, no int, id int, doc impl.Value) impl.Op {
	return impl.Op{Kind: impl.DoPut, Id: id, Doc: doc, Session: session, No: no}
}

func putNumber(session int, no int, id int, n int) impl.Op {
	return putOp(session, no, id, numberTree(n).value())
}

func delOp(session int, no int, id int) impl.Op {
	return impl.Op{Kind: impl.DoDel, Id: id, Session: session, No: no}
}

// deed is a number of a session that was done, and how it ended.
type deed struct {
	no   int
	fine bool
}

// logbook is what was done, told without orders and greatest numbers: these are found in what was done.
type logbook struct {
	applied int
	docs    map[int]impl.Value
	deeds   map[int][]deed
}

// logbookOf takes a good base for what was done so far.
func logbookOf(b impl.Base) *logbook {
	h := &logbook{applied: b.Applied, docs: map[int]impl.Value{}, deeds: map[int][]deed{}}
	for _, x := range b.Docs {
		h.docs[x.Id] = x.Doc
	}
	for _, s := range b.Sessions {
		h.deeds[s.Id] = []deed{{s.No, s.Fine}}
	}
	return h
}

func (h *logbook) base() impl.Base {
	made := impl.Base{Applied: h.applied}
	for _, id := range slices.Sorted(maps.Keys(h.docs)) {
		made.Docs = append(made.Docs, impl.Stored{Id: id, Doc: h.docs[id]})
	}
	for _, id := range slices.Sorted(maps.Keys(h.deeds)) {
		last := slices.MaxFunc(h.deeds[id], func(a deed, b deed) int { return a.no - b.no })
		made.Sessions = append(made.Sessions, impl.Session{Id: id, No: last.no, Fine: last.fine})
	}
	return made
}

// isNew tells whether an op is the first one with its number or with a greater one, and its session is one of eight.
func (h *logbook) isNew(o impl.Op) bool {
	if len(h.deeds[o.Session]) == 0 {
		return len(h.deeds) < 8
	}
	return !slices.ContainsFunc(h.deeds[o.Session], func(x deed) bool { return x.no >= o.No })
}

func (h *logbook) does(o impl.Op) bool {
	_, there := h.docs[o.Id]
	if o.Kind == impl.DoDel {
		delete(h.docs, o.Id)
		return there
	}
	if there || len(h.docs) < 20 {
		h.docs[o.Id] = o.Doc
		return true
	}
	return false
}

// enters tells whether an entry is taken; where it is not, the logbook is as it was.
func (h *logbook) enters(index int, o impl.Op) bool {
	if !oracleGoodOp(o) || index < 0 || index > h.applied || index > 59 {
		return false
	}
	if index < h.applied {
		return true
	}
	h.applied++
	if h.isNew(o) {
		h.deeds[o.Session] = append(h.deeds[o.Session], deed{o.No, h.does(o)})
	}
	return true
}

// oracleReplay takes a good base.
func oracleReplay(b impl.Base, from int, l []impl.Op) (impl.Base, bool) {
	h := logbookOf(b)
	for k, o := range l {
		if !h.enters(from+k, o) {
			return impl.Base{}, false
		}
	}
	return h.base(), true
}

func oracleGoodDoc(v impl.Value) bool {
	return len(v.Nodes) < 81 && oracleGood(v)
}

func oracleGoodOp(o impl.Op) bool {
	if !between(o.Id, 0, 100) || !between(o.Session, 0, 100) || !between(o.No, 1, 1000) {
		return false
	}
	return o.Kind == impl.DoPut && oracleGoodDoc(o.Doc) || o.Kind == impl.DoDel && len(o.Doc.Nodes) == 0
}

// oracleGoodBase asks rule by rule.
func oracleGoodBase(b impl.Base) bool {
	if !between(b.Applied, 0, 60) || len(b.Docs) > 20 || len(b.Sessions) > 8 {
		return false
	}
	var docs, sessions []int
	for _, x := range b.Docs {
		docs = append(docs, x.Id)
		if !oracleGoodDoc(x.Doc) {
			return false
		}
	}
	for _, s := range b.Sessions {
		sessions = append(sessions, s.Id)
		if !between(s.No, 1, 1000) {
			return false
		}
	}
	return oracleRises(docs, 101) && oracleRises(sessions, 101)
}

func sameStored(a impl.Stored, b impl.Stored) bool {
	return a.Id == b.Id && sameValue(a.Doc, b.Doc)
}

func sameBase(a impl.Base, b impl.Base) bool {
	return a.Applied == b.Applied && slices.EqualFunc(a.Docs, b.Docs, sameStored) && slices.Equal(a.Sessions, b.Sessions)
}

func sameOp(a impl.Op, b impl.Op) bool {
	return a.Kind == b.Kind && a.Id == b.Id && sameValue(a.Doc, b.Doc) && a.Session == b.Session && a.No == b.No
}

func wantBase(t *testing.T, what string, got impl.Base, ok bool, want impl.Base) {
	t.Helper()
	if !ok || !sameBase(got, want) {
		t.Errorf("%s is\n%v %v, not\n%v", what, got, ok, want)
	}
	if !impl.GoodBase(got) {
		t.Errorf("%s is not good: %v", what, got)
	}
}

func wantZeroBase(t *testing.T, what string, got impl.Base, ok bool) {
	t.Helper()
	if ok || !sameBase(got, impl.Base{}) {
		t.Errorf("%s is %v %v, not zero and false", what, got, ok)
	}
}

// wantApplied asks ApplyOp, and ReplayOps of that op alone.
func wantApplied(t *testing.T, what string, b impl.Base, index int, o impl.Op, want impl.Base) {
	t.Helper()
	got, ok := impl.ApplyOp(b, index, o)
	wantBase(t, what+": ApplyOp", got, ok, want)
	wantReplayed(t, what, b, index, []impl.Op{o}, want)
}

func wantNotApplied(t *testing.T, what string, b impl.Base, index int, o impl.Op) {
	t.Helper()
	got, ok := impl.ApplyOp(b, index, o)
	wantZeroBase(t, what+": ApplyOp", got, ok)
	wantNotReplayed(t, what, b, index, []impl.Op{o})
}

func wantReplayed(t *testing.T, what string, b impl.Base, from int, l []impl.Op, want impl.Base) {
	t.Helper()
	got, ok := impl.ReplayOps(b, from, l)
	wantBase(t, what+": ReplayOps", got, ok, want)
}

func wantNotReplayed(t *testing.T, what string, b impl.Base, from int, l []impl.Op) {
	t.Helper()
	got, ok := impl.ReplayOps(b, from, l)
	wantZeroBase(t, what+": ReplayOps", got, ok)
}

func wantFolded(t *testing.T, what string, l []impl.Op, want impl.Base) {
	t.Helper()
	got, ok := impl.FoldOps(l)
	wantBase(t, what+": FoldOps", got, ok, want)
}

func wantNotFolded(t *testing.T, what string, l []impl.Op) {
	t.Helper()
	got, ok := impl.FoldOps(l)
	wantZeroBase(t, what+": FoldOps", got, ok)
}

func folded(t *testing.T, l []impl.Op) impl.Base {
	t.Helper()
	b, ok := impl.FoldOps(l)
	if !ok {
		t.Fatalf("FoldOps(%v) tells none", l)
	}
	return b
}

// wantReplayedAsTold asks for entries on a good base what the logbook tells, and whether all of them are taken.
func wantReplayedAsTold(t *testing.T, what string, b impl.Base, from int, l []impl.Op) bool {
	t.Helper()
	want, ok := oracleReplay(b, from, l)
	if ok {
		wantReplayed(t, what, b, from, l, want)
	} else {
		wantNotReplayed(t, what, b, from, l)
	}
	return ok
}

func wantAnswer(t *testing.T, what string, b impl.Base, session int, no int, isLast bool, fine bool) {
	t.Helper()
	if last, wasFine, ok := impl.AnswerFor(b, session, no); last != isLast || wasFine != fine || !ok {
		t.Errorf("%s: AnswerFor(%v, %d, %d) is %v %v %v, not %v %v true", what, b, session, no, last, wasFine, ok, isLast, fine)
	}
}

func wantNoAnswer(t *testing.T, what string, b impl.Base, session int, no int) {
	t.Helper()
	if last, fine, ok := impl.AnswerFor(b, session, no); last || fine || ok {
		t.Errorf("%s: AnswerFor(%v, %d, %d) is %v %v %v", what, b, session, no, last, fine, ok)
	}
}

func wantNoDoc(t *testing.T, what string, b impl.Base, id int) {
	t.Helper()
	if v, ok := impl.DocIn(b, id); len(v.Nodes) != 0 || ok {
		t.Errorf("%s: DocIn(%v, %d) is %v %v", what, b, id, v, ok)
	}
}

// wantLogbook asks all answers of a base for what was done.
func wantLogbook(t *testing.T, what string, b impl.Base, h *logbook) {
	t.Helper()
	wantBase(t, what, b, true, h.base())
	for id := -2; id <= 102; id++ {
		doc, there := h.docs[id]
		if got, ok := impl.DocIn(b, id); ok != there || !sameValue(got, doc) {
			t.Errorf("%s: DocIn(%v, %d) is %v %v, not %v", what, b, id, got, ok, doc)
		}
		deeds := h.deeds[id]
		if len(deeds) == 0 {
			wantNoAnswer(t, what, b, id, 1)
			continue
		}
		last := deeds[len(deeds)-1]
		wantAnswer(t, what, b, id, last.no, true, last.fine)
		wantNoAnswer(t, what, b, id, last.no+1)
		for _, x := range deeds[:len(deeds)-1] {
			wantAnswer(t, what, b, id, x.no, false, false)
		}
	}
}

// wantNotGoodBase asks each function that takes a base for its answer where it is not good.
func wantNotGoodBase(t *testing.T, what string, b impl.Base) {
	t.Helper()
	if impl.GoodBase(b) {
		t.Errorf("%s: it is good: %v", what, b)
	}
	wantNotReplayed(t, what, b, 0, nil)
	for _, index := range []int{-1, 0, b.Applied - 1, b.Applied, 60} {
		wantNotApplied(t, what, b, index, putNumber(1, 1000, 7, 7))
		wantNotApplied(t, what, b, index, delOp(3, 1, 5))
		wantNotApplied(t, what, b, index, impl.Op{})
	}
	for _, id := range []int{-1, 0, 3, 5, 7, 100, 101} {
		wantNoDoc(t, what, b, id)
		for _, no := range []int{-1, 0, 1, 5, 1000} {
			wantNoAnswer(t, what, b, id, no)
		}
	}
}

// wantAsBaseRulesSay tells whether the rules say that a base is good.
func wantAsBaseRulesSay(t *testing.T, what string, b impl.Base) bool {
	t.Helper()
	good := oracleGoodBase(b)
	if !good {
		wantNotGoodBase(t, what, b)
	} else if !impl.GoodBase(b) {
		t.Errorf("%s: it is not good: %v", what, b)
	}
	return good
}

// wantNotGoodOp asks each function that takes an op for its answer where it is not good.
func wantNotGoodOp(t *testing.T, what string, o impl.Op) {
	t.Helper()
	if impl.GoodOp(o) {
		t.Errorf("%s: it is good: %v", what, o)
	}
	if s, ok := impl.OpText(o); s != "" || ok {
		t.Errorf("%s: OpText(%v) is %q %v", what, o, s, ok)
	}
	for _, index := range []int{-1, 0, 1, 9, 10, 60} {
		wantNotApplied(t, what, busyBase(), index, o)
	}
	wantNotFolded(t, what, []impl.Op{o})
	wantNotFolded(t, what, []impl.Op{putNumber(1, 1, 1, 1), o, delOp(1, 2, 1)})
	wantNotReplayed(t, what, busyBase(), 3, []impl.Op{delOp(0, 1, 1), o})
}

// wantGoodOp asks that an op is taken and comes back from its text.
func wantGoodOp(t *testing.T, what string, o impl.Op) {
	t.Helper()
	if !impl.GoodOp(o) {
		t.Errorf("%s: it is not good: %v", what, o)
	}
	wantFolded(t, what, []impl.Op{o}, firstDone(o))
	wantApplied(t, what, busyBase(), 8, o, busyBase())
	wantRead(t, what, opTextAsTold(o), o)
}

// firstDone is what an op makes of the empty base.
func firstDone(o impl.Op) impl.Base {
	if o.Kind == impl.DoDel {
		return impl.Base{Applied: 1, Sessions: []impl.Session{{Id: o.Session, No: o.No}}}
	}
	return impl.Base{Applied: 1, Docs: []impl.Stored{{Id: o.Id, Doc: o.Doc}}, Sessions: []impl.Session{{Id: o.Session, No: o.No, Fine: true}}}
}

// wantAsOpRulesSay tells whether the rules say that an op is good.
func wantAsOpRulesSay(t *testing.T, what string, o impl.Op) bool {
	t.Helper()
	good := oracleGoodOp(o)
	if good {
		wantGoodOp(t, what, o)
	} else {
		wantNotGoodOp(t, what, o)
	}
	return good
}

// busyBase has documents and sessions at both ends of what ids may be, and between.
func busyBase() impl.Base {
	return impl.Base{
		Applied: 9,
		Docs: []impl.Stored{
			{Id: 0, Doc: treeIn(`{"a":1}`).value()}, {Id: 5, Doc: treeIn(`"five"`).value()},
			{Id: 7, Doc: treeIn(`[7,[]]`).value()}, {Id: 100, Doc: treeIn(`null`).value()},
		},
		Sessions: []impl.Session{{Id: 0, No: 1, Fine: true}, {Id: 3, No: 5}, {Id: 40, No: 999, Fine: true}, {Id: 100, No: 1000}},
	}
}

func baseWith(change func(b *impl.Base)) impl.Base {
	b := busyBase()
	change(&b)
	return b
}

// crowdedBase has so many documents, of the ids 1, 3, 5 and so on, and so many sessions, of the ids 2, 4, 6 and so on, each at its number 10.
func crowdedBase(applied int, docs int, sessions int) impl.Base {
	b := impl.Base{Applied: applied}
	for k := range docs {
		b.Docs = append(b.Docs, impl.Stored{Id: 2*k + 1, Doc: numberTree(k).value()})
	}
	for k := range sessions {
		b.Sessions = append(b.Sessions, impl.Session{Id: 2*k + 2, No: 10, Fine: k%2 == 0})
	}
	return b
}
