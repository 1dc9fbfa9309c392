package tests

import (
	"fmt"
	"slices"
	"strings"
	"testing"

	"loop.example/g00274/impl"
)

// justWithin are values that meet a limit of chapter 1 exactly, justBeyond such as go beyond it by one.
func justWithin() []tree {
	return []tree{manyTexts(11, numberTree(7)), zeros(79), nested(6, numberTree(1)), textTree(strings.Repeat("x", 24)), numberTree(-1000000000), {kind: impl.KindMap}}
}

func justBeyond() []tree {
	return []tree{manyTexts(11, numberTree(77)), zeros(80), nested(7, numberTree(1)), textTree(strings.Repeat("x", 25)), numberTree(1000000001)}
}

func TestPromise16GoodOpEachRuleByItself(t *testing.T) {
	for _, o := range []impl.Op{putNumber(50, 500, 50, 1), delOp(50, 500, 50)} {
		for _, c := range []struct {
			n    int
			id   bool
			no   bool
			kind bool
		}{
			{-1, false, false, false}, {0, true, false, false}, {1, true, true, o.Kind == impl.DoPut}, {2, true, true, o.Kind == impl.DoDel}, {3, true, true, false},
			{100, true, true, false}, {101, false, true, false}, {1000, false, true, false}, {1001, false, false, false},
			{least, false, false, false}, {greatest, false, false, false}, {1<<32 + 1, false, false, false},
		} {
			for what, want := range map[string]bool{"Id": c.id, "Session": c.id, "No": c.no, "Kind": c.kind} {
				made := o
				*map[string]*int{"Id": &made.Id, "Session": &made.Session, "No": &made.No, "Kind": &made.Kind}[what] = c.n
				if got := wantAsOpRulesSay(t, fmt.Sprint(what, c.n), made); got != want {
					t.Errorf("%s %d of %v: the rules say %v", what, c.n, o, got)
				}
			}
		}
	}
}

func TestPromise16GoodOpEachDoc(t *testing.T) {
	for _, x := range justWithin() {
		wantGoodOp(t, "put "+x.tidy(), putOp(0, 1, 100, x.value()))
		wantNotGoodOp(t, "delete "+x.tidy(), impl.Op{Kind: impl.DoDel, Doc: x.value(), No: 1})
		wantNotGoodOp(t, "of no kind "+x.tidy(), impl.Op{Doc: x.value(), No: 1})
	}
	for _, x := range justBeyond() {
		wantNotGoodOp(t, "put "+x.tidy(), putOp(0, 1, 100, x.value()))
		wantNotGoodOp(t, "delete "+x.tidy(), impl.Op{Kind: impl.DoDel, Doc: x.value(), No: 1})
	}
	for what, v := range badValues() {
		wantNotGoodOp(t, "put: "+what, putOp(0, 1, 100, v))
		if len(v.Nodes) > 0 {
			wantNotGoodOp(t, "delete: "+what, impl.Op{Kind: impl.DoDel, Doc: v, No: 1})
		}
	}
	for _, none := range [][]impl.Node{nil, {}, make([]impl.Node, 0, 5)} {
		doc := impl.Value{Nodes: none}
		wantNotGoodOp(t, "put no document", putOp(0, 1, 0, doc))
		wantGoodOp(t, "delete, no document", impl.Op{Kind: impl.DoDel, Doc: doc, No: 1})
		wantNotGoodOp(t, "nothing", impl.Op{Doc: doc})
	}
}

func TestPromise16GoodOpOfEachNumber(t *testing.T) {
	numbers := append(anyNumbers(), 99, 100, 101)
	d := &dice{state: 160}
	good := 0
	for range 4000 {
		number := func() int { return numbers[d.below(len(numbers))] }
		o := impl.Op{Kind: 1 + d.below(2), Id: 1 + d.below(100), Session: d.below(101), No: 1 + d.below(1000)}
		if d.below(20) == 0 {
			o.Kind = number()
		}
		if d.below(3) == 0 {
			o.Id, o.Session, o.No = number(), number(), number()
		}
		if o.Kind == impl.DoPut || d.below(5) == 0 {
			o.Doc = d.small(2).value()
		}
		if wantAsOpRulesSay(t, "any numbers", o) {
			good++
		}
	}
	if good < 1500 || good > 3500 {
		t.Errorf("%d are good", good)
	}
}

// goodBases tells such as meet a limit exactly.
func goodBases() map[string]impl.Base {
	return map[string]impl.Base{
		"empty":                 {},
		"empty lists":           {Docs: []impl.Stored{}, Sessions: []impl.Session{}},
		"busy":                  busyBase(),
		"Applied 0":             baseWith(func(b *impl.Base) { b.Applied = 0 }),
		"Applied 60":            baseWith(func(b *impl.Base) { b.Applied = 60 }),
		"Applied, nothing else": {Applied: 60},
		"no sessions":           baseWith(func(b *impl.Base) { b.Sessions = nil }),
		"no documents":          baseWith(func(b *impl.Base) { b.Docs = nil }),
		"one document at 0":     baseWith(func(b *impl.Base) { b.Docs = b.Docs[:1] }),
		"one document at 100":   baseWith(func(b *impl.Base) { b.Docs = b.Docs[3:] }),
		"one session at 0":      baseWith(func(b *impl.Base) { b.Sessions = b.Sessions[:1] }),
		"one session at 100":    baseWith(func(b *impl.Base) { b.Sessions = b.Sessions[3:] }),
		"No 1":                  baseWith(func(b *impl.Base) { b.Sessions[2].No = 1 }),
		"No 1000":               baseWith(func(b *impl.Base) { b.Sessions[2].No = 1000 }),
		"20 documents":          crowdedBase(0, 20, 0),
		"8 sessions":            crowdedBase(1, 0, 8),
		"all that it may have":  crowdedBase(60, 20, 8),
	}
}

func brokenBases() map[string]impl.Base {
	all := map[string]impl.Base{
		"Applied -1":           baseWith(func(b *impl.Base) { b.Applied = -1 }),
		"Applied 61":           baseWith(func(b *impl.Base) { b.Applied = 61 }),
		"the least Applied":    baseWith(func(b *impl.Base) { b.Applied = least }),
		"the greatest Applied": baseWith(func(b *impl.Base) { b.Applied = greatest }),
		"only Applied 61":      {Applied: 61},
		"21 documents":         crowdedBase(5, 21, 2),
		"9 sessions":           crowdedBase(5, 2, 9),
		"a million documents":  {Docs: make([]impl.Stored, 1000000)},
		"a million sessions":   {Sessions: make([]impl.Session, 1000000)},
		"no document":          baseWith(func(b *impl.Base) { b.Docs[3].Doc = impl.Value{} }),
		"all zero":             {Docs: make([]impl.Stored, 1), Sessions: make([]impl.Session, 1)},
	}
	for what, n := range map[string]int{"-1": -1, "101": 101, "the least": least, "the greatest": greatest} {
		all["a document at "+what] = baseWith(func(b *impl.Base) { b.Docs = []impl.Stored{{Id: n, Doc: b.Docs[0].Doc}} })
		all["a session at "+what] = baseWith(func(b *impl.Base) { b.Sessions = []impl.Session{{Id: n, No: 1}} })
	}
	for k := range 4 {
		at := fmt.Sprint(" at ", k)
		all["a document at -1"+at] = baseWith(func(b *impl.Base) { b.Docs[k].Id = -1 })
		all["a document at 101"+at] = baseWith(func(b *impl.Base) { b.Docs[k].Id = 101 })
		all["a session at -1"+at] = baseWith(func(b *impl.Base) { b.Sessions[k].Id = -1 })
		all["a session at 101"+at] = baseWith(func(b *impl.Base) { b.Sessions[k].Id = 101 })
		for _, n := range []int{least, -1, 0, 1001, greatest} {
			all[fmt.Sprint("No ", n, at)] = baseWith(func(b *impl.Base) { b.Sessions[k].No = n })
		}
		if k > 0 {
			all["two documents alike"+at] = baseWith(func(b *impl.Base) { b.Docs[k].Id = b.Docs[k-1].Id })
			all["two sessions alike"+at] = baseWith(func(b *impl.Base) { b.Sessions[k].Id = b.Sessions[k-1].Id })
			all["documents fall"+at] = baseWith(func(b *impl.Base) { b.Docs[k], b.Docs[k-1] = b.Docs[k-1], b.Docs[k] })
			all["sessions fall"+at] = baseWith(func(b *impl.Base) { b.Sessions[k], b.Sessions[k-1] = b.Sessions[k-1], b.Sessions[k] })
		}
	}
	return all
}

func TestPromise16GoodBaseEachRuleByItself(t *testing.T) {
	for what, b := range goodBases() {
		if !wantAsBaseRulesSay(t, what, b) {
			t.Errorf("%s: the rules say that it is not good", what)
		}
		wantReplayed(t, what, b, b.Applied, nil, b)
		wantLogbook(t, what, b, logbookOf(b))
	}
	for what, b := range brokenBases() {
		wantNotGoodBase(t, what, b)
	}
}

func TestPromise16GoodBaseEachDoc(t *testing.T) {
	for k := range 4 {
		for _, x := range justWithin() {
			b := baseWith(func(b *impl.Base) { b.Docs[k].Doc = x.value() })
			wantReplayed(t, "just within", b, 0, nil, b)
		}
		for _, x := range justBeyond() {
			wantNotGoodBase(t, "just beyond", baseWith(func(b *impl.Base) { b.Docs[k].Doc = x.value() }))
		}
		for what, v := range badValues() {
			wantNotGoodBase(t, what, baseWith(func(b *impl.Base) { b.Docs[k].Doc = v }))
		}
	}
}

func TestPromise16GoodBaseOfEachLength(t *testing.T) {
	for docs := range 23 {
		for sessions := range 11 {
			want := docs <= 20 && sessions <= 8
			if got := wantAsBaseRulesSay(t, "crowded", crowdedBase(docs, docs, sessions)); got != want {
				t.Errorf("%d documents, %d sessions: the rules say %v", docs, sessions, got)
			}
		}
	}
}

func TestPromise16GoodBaseOfEachNumber(t *testing.T) {
	for _, n := range append(anyNumbers(), 99, 100, 101) {
		wantAsBaseRulesSay(t, "any Applied", baseWith(func(b *impl.Base) { b.Applied = n }))
		for k := range 4 {
			wantAsBaseRulesSay(t, "any document's Id", baseWith(func(b *impl.Base) { b.Docs[k].Id = n }))
			wantAsBaseRulesSay(t, "any session's Id", baseWith(func(b *impl.Base) { b.Sessions[k].Id = n }))
			wantAsBaseRulesSay(t, "any No", baseWith(func(b *impl.Base) { b.Sessions[k].No = n }))
		}
	}
}

// disturbBase changes one or two things in a base; most often it is not good then.
func (d *dice) disturbBase(b impl.Base) impl.Base {
	b.Docs, b.Sessions = slices.Clone(b.Docs), slices.Clone(b.Sessions)
	for range 1 + d.below(2) {
		switch d.below(5) {
		case 0:
			b.Applied = d.below(64) - 2
		case 1:
			b.Docs = append(b.Docs, impl.Stored{Id: d.below(104) - 2, Doc: d.small(1).value()})
		case 2:
			b.Sessions = append(b.Sessions, impl.Session{Id: d.below(104) - 2, No: d.below(1003)})
		case 3:
			if len(b.Docs) > 0 {
				b.Docs[d.below(len(b.Docs))] = impl.Stored{Id: d.below(101), Doc: d.spoil(d.small(2).value())}
			}
		case 4:
			if len(b.Sessions) > 0 {
				b.Sessions[d.below(len(b.Sessions))] = impl.Session{Id: d.below(101), No: d.below(1003)}
			}
		}
	}
	return b
}

func TestPromise16GoodBaseOfDisturbedOnes(t *testing.T) {
	d := &dice{state: 161}
	good := 0
	for range 3000 {
		if wantAsBaseRulesSay(t, "disturbed", d.disturbBase(crowdedBase(d.below(61), d.below(21), d.below(9)))) {
			good++
		}
	}
	if good < 200 || good > 2800 {
		t.Errorf("%d are good", good)
	}
}
