package tests

import (
	"fmt"
	"maps"
	"slices"
	"strings"
	"testing"

	"loop.example/g00274/impl"
)

func TestPromise19BasesOfAnyNumbers(t *testing.T) {
	d := &dice{state: 166}
	numbers := append(anyNumbers(), 6, 99, 100, 101, 1<<62, -1<<62)
	number := func() int { return numbers[d.below(len(numbers))] }
	for range 3000 {
		b := impl.Base{Applied: number()}
		for range d.below(5) {
			b.Docs = append(b.Docs, impl.Stored{Id: number(), Doc: d.anyValue()})
			b.Sessions = append(b.Sessions, impl.Session{Id: number(), No: number(), Fine: d.below(2) == 0})
		}
		wantAsBaseRulesSay(t, "any numbers", b)
		wantReplayedAnyhow(t, b, number(), d.anyOps(number))
	}
}

// anyValue draws a value that is good, or not, or none.
func (d *dice) anyValue() impl.Value {
	switch d.below(4) {
	case 0:
		return impl.Value{}
	case 1:
		return d.spoil(d.small(2).value())
	}
	return d.small(2).value()
}

func (d *dice) anyOps(number func() int) []impl.Op {
	var l []impl.Op
	for range d.below(4) {
		l = append(l, impl.Op{Kind: d.below(4), Id: number(), Doc: d.anyValue(), Session: number(), No: number()})
	}
	return l
}

// wantReplayedAnyhow asks each function at any base, number and ops.
func wantReplayedAnyhow(t *testing.T, b impl.Base, n int, l []impl.Op) {
	t.Helper()
	for _, o := range l {
		wantAsOpRulesSay(t, "any op", o)
	}
	if !oracleGoodBase(b) {
		wantNotReplayed(t, "any ops", b, n, l)
		wantNoAnswer(t, "any number", b, n, n)
		wantNoDoc(t, "any number", b, n)
		return
	}
	wantReplayedAsTold(t, "any ops", b, n, l)
	wantReplayedAsTold(t, "any ops", b, b.Applied, l)
	for _, o := range l {
		wantReplayedAsTold(t, "any op", b, n, []impl.Op{o})
	}
}

func TestPromise19AnyOpOfAGoodBase(t *testing.T) {
	d := &dice{state: 167}
	numbers := append(anyNumbers(), 6, 99, 100, 101, 1<<62, -1<<62)
	number := func() int { return numbers[d.below(len(numbers))] }
	taken := 0
	for range 4000 {
		o := impl.Op{Kind: 1 + d.below(2), Id: number(), Session: number(), No: number()}
		if o.Kind == impl.DoPut || d.below(4) == 0 {
			o.Doc = d.anyValue()
		}
		index := []int{number(), 9, 8}[d.below(3)]
		if wantReplayedAsTold(t, "any op", busyBase(), index, []impl.Op{o}) {
			taken++
		}
	}
	if taken < 100 {
		t.Errorf("only %d are taken", taken)
	}
	for _, many := range []int{61, 1000, 300000} {
		wantNotReplayed(t, "so many that are not good", busyBase(), 0, make([]impl.Op, many))
		wantNotReplayed(t, "so many that are good", busyBase(), 0, slices.Repeat([]impl.Op{delOp(1, 1, 1)}, many))
		wantNotFolded(t, "so many that are good", slices.Repeat([]impl.Op{delOp(1, 1, 1)}, many))
	}
}

func TestPromise19AnyTextAsAnOp(t *testing.T) {
	d := &dice{state: 168}
	for range 6000 {
		wantReadAsTold(t, "any bytes", d.textOf("12 0 3-\"[]{}:,a\n\xff", d.below(14)))
		wantReadAsTold(t, "an op's form", d.pick("0123")+" "+d.textOf("01", d.below(4))+" "+d.textOf("01 ", d.below(4))+" "+d.textOf("0123", d.below(5))+" "+d.textOf("1[]n\" ", d.below(4)))
	}
	for c := range 256 {
		one := string([]byte{byte(c)})
		for _, s := range []string{one, one + "1 1 1 1 5", "1" + one + "1 1 1 5", "1 1 1 1" + one + "5", "1 1 1 1 5" + one, "2 1 1 1 " + one, "1 1 1 1 " + one, `1 1 1 1 "` + one + `"`, "1 1 1 " + one + " 5", one + " 1 1 1 ", strings.Repeat(one, 1000000)} {
			wantReadAsTold(t, "any byte", s)
		}
	}
}

// opArgs are the arguments of all functions of the chapter.
type opArgs struct {
	base  impl.Base
	op    impl.Op
	ops   []impl.Op
	index int
	id    int
	no    int
	text  string
}

// opAnswer holds the lists that a function of the chapter answers, and tells the rest.
type opAnswer struct {
	base impl.Base
	docs []impl.Value
	told string
}

// tellBase tells the empty list and the nil list alike.
func tellBase(b impl.Base) string {
	return fmt.Sprintf("%d %v %v", b.Applied, b.Docs, b.Sessions)
}

func (a opAnswer) tell() string {
	return fmt.Sprintf("%s %v %s", tellBase(a.base), a.docs, a.told)
}

// basePieces are its lists, and the nodes of each document.
func basePieces(b impl.Base) []piece {
	all := []piece{
		pieceOf(b.Docs, impl.Stored{Id: 77}, func(x impl.Stored) any { return []int{x.Id, len(x.Doc.Nodes)} }),
		pieceOf(b.Sessions, impl.Session{Id: 77, No: 78}, func(s impl.Session) any { return s }),
	}
	for _, x := range b.Docs[:cap(b.Docs)] {
		all = append(all, nodesPiece(x.Doc.Nodes))
	}
	return all
}

func opsPieces(l []impl.Op) []piece {
	all := []piece{pieceOf(l, impl.Op{Kind: 77, Id: 78}, func(o impl.Op) any {
		return []int{o.Kind, o.Id, len(o.Doc.Nodes), o.Session, o.No}
	})}
	for _, o := range l[:cap(l)] {
		all = append(all, nodesPiece(o.Doc.Nodes))
	}
	return all
}

func (a opAnswer) pieces() []piece {
	all := basePieces(a.base)
	for _, v := range a.docs {
		all = append(all, nodesPiece(v.Nodes))
	}
	return all
}

func (a opArgs) pieces() []piece {
	return slices.Concat(basePieces(a.base), opsPieces(a.ops), []piece{nodesPiece(a.op.Doc.Nodes)})
}

func baseBehind(b impl.Base) impl.Base {
	made := impl.Base{
		Applied:  b.Applied,
		Docs:     withBehind(b.Docs, impl.Stored{Id: 101, Doc: treeIn(`"behind"`).value()}, impl.Stored{Id: -5}),
		Sessions: withBehind(b.Sessions, impl.Session{Id: 101, No: 9, Fine: true}, impl.Session{Id: -5}),
	}
	for k, x := range made.Docs {
		made.Docs[k].Doc = valueBehind(x.Doc)
	}
	return made
}

// behind is the same in new memory, in which more lies behind each length.
func (a opArgs) behind() opArgs {
	a.base = baseBehind(a.base)
	a.op.Doc = valueBehind(a.op.Doc)
	a.ops = withBehind(a.ops, putOp(1, 1000, 50, treeIn(`"behind"`).value()), impl.Op{Kind: -5})
	for k, o := range a.ops {
		a.ops[k].Doc = valueBehind(o.Doc)
	}
	return a
}

func opCalls() map[string]func(opArgs) opAnswer {
	return map[string]func(opArgs) opAnswer{
		"GoodOp": func(a opArgs) opAnswer {
			return opAnswer{told: fmt.Sprint(impl.GoodOp(a.op))}
		},
		"GoodBase": func(a opArgs) opAnswer {
			return opAnswer{told: fmt.Sprint(impl.GoodBase(a.base))}
		},
		"ApplyOp": func(a opArgs) opAnswer {
			b, ok := impl.ApplyOp(a.base, a.index, a.op)
			return opAnswer{base: b, told: fmt.Sprint(ok)}
		},
		"ReplayOps": func(a opArgs) opAnswer {
			b, ok := impl.ReplayOps(a.base, a.index, a.ops)
			return opAnswer{base: b, told: fmt.Sprint(ok)}
		},
		"FoldOps": func(a opArgs) opAnswer {
			b, ok := impl.FoldOps(a.ops)
			return opAnswer{base: b, told: fmt.Sprint(ok)}
		},
		"AnswerFor": func(a opArgs) opAnswer {
			isLast, fine, ok := impl.AnswerFor(a.base, a.id, a.no)
			return opAnswer{told: fmt.Sprint(isLast, fine, ok)}
		},
		"OpText": func(a opArgs) opAnswer {
			s, ok := impl.OpText(a.op)
			return opAnswer{told: fmt.Sprintf("%q %v", s, ok)}
		},
		"ReadOp": func(a opArgs) opAnswer {
			o, ok := impl.ReadOp(a.text)
			return opAnswer{docs: []impl.Value{o.Doc}, told: fmt.Sprint(o.Kind, o.Id, o.Session, o.No, ok)}
		},
		"DocIn": func(a opArgs) opAnswer {
			v, ok := impl.DocIn(a.base, a.id)
			return opAnswer{docs: []impl.Value{v}, told: fmt.Sprint(ok)}
		},
	}
}

// someBases are good ones, and such as break a rule, each small enough to be told often.
func someBases() []impl.Base {
	all := []impl.Base{{}, busyBase(), tenDone(), crowdedBase(9, 19, 7), crowdedBase(9, 20, 8), crowdedBase(60, 20, 8)}
	broken := brokenBases()
	for _, what := range slices.Sorted(maps.Keys(broken)) {
		if !strings.Contains(what, "million") {
			all = append(all, broken[what])
		}
	}
	return all
}

// someOpArgs puts bases together with ops of each kind, at indexes around Applied.
func someOpArgs() []opArgs {
	ops := []impl.Op{
		putOp(3, 6, 50, treeIn(`[1,"new"]`).value()), putOp(3, 6, 5, treeIn(`{"a":{}}`).value()), delOp(3, 6, 5), delOp(2, 11, 1), delOp(3, 6, 50),
		putNumber(4, 1, 0, 1), putNumber(3, 1, 5, 1), putNumber(2, 12, 41, 3), putNumber(101, 1, 1, 1), putOp(1, 1, 1, impl.Value{Nodes: make([]impl.Node, 2)}), {},
	}
	lists := [][]impl.Op{nil, tenOps(), tenOps()[:3], {ops[0], ops[1], ops[2]}, {ops[5], {}, ops[1]}, slices.Repeat(ops[:1], 61)}
	texts := []string{"1 5 3 6 [1,{\"a\":2}]", "2 5 3 6 ", "1 5 3 6 [1, 2]", "", "1 5 3 06 null", "1 0 0 1 null"}
	var all []opArgs
	for n, b := range someBases() {
		for k, o := range ops {
			if n < 6 || (n+k)%4 == 0 {
				index := b.Applied + []int{0, -1, 0, 1, 0, -9}[(n+k)%6]
				all = append(all, opArgs{b, o, lists[(n+k)%6], index, []int{5, 100, 2, 1, -1}[(n+k)%5], []int{5, 1000, 10, 0, least}[(n+k)%5], texts[(n+k)%6]})
				all = append(all, opArgs{b, o, lists[1+k%3], max(0, b.Applied-k%3), 5, 1, texts[0]})
			}
		}
	}
	return all
}

func (a opAnswer) wantNothingBehind(t *testing.T, what string) {
	t.Helper()
	wantEmptyBehind(t, what, a.base.Sessions)
	for _, x := range a.base.Docs[len(a.base.Docs):cap(a.base.Docs)] {
		if x.Id != 0 || x.Doc.Nodes != nil {
			t.Errorf("%s: behind the documents lies %v", what, x)
		}
	}
	for _, x := range a.base.Docs {
		wantNothingBehind(t, what, x.Doc.Nodes)
	}
	for _, v := range a.docs {
		wantNothingBehind(t, what, v.Nodes)
	}
}

func TestPromise19BasesStayAsTheyWere(t *testing.T) {
	for _, a := range someOpArgs() {
		arg := a.behind()
		before := tellPieces(arg.pieces())
		for name, call := range opCalls() {
			got, want := call(arg), call(a)
			if got.tell() != want.tell() {
				t.Errorf("%s reads what lies behind a length: %s, not %s", name, got.tell(), want.tell())
			}
			got.wantNothingBehind(t, name)
			for _, p := range got.pieces() {
				p.spoil()
			}
			if !slices.Equal(tellPieces(arg.pieces()), before) {
				t.Fatalf("%s writes into an argument, or it changed with an answer: %v", name, a)
			}
		}
	}
}

func TestPromise19BaseAnswersShareNothing(t *testing.T) {
	for k, a := range someOpArgs() {
		if k%3 > 0 {
			continue
		}
		arg := a.behind()
		pieces := arg.pieces()
		for range 2 {
			for _, call := range opCalls() {
				pieces = append(pieces, call(arg).pieces()...)
			}
		}
		wantApart(t, fmt.Sprintf("the op is %v", a.op), pieces)
	}
}

// An answer stays as it was, whatever is done to the arguments later; so does what is answered next.
func TestPromise19BaseAnswersOfLaterChangedArguments(t *testing.T) {
	for _, a := range someOpArgs() {
		for name, call := range opCalls() {
			arg := a.behind()
			got := call(arg)
			before := got.tell()
			for _, p := range arg.pieces() {
				p.spoil()
			}
			if again := call(a); got.tell() != before || again.tell() != before {
				t.Errorf("%s of %v changed with an argument: %s, not %s", name, a, got.tell(), before)
			}
		}
	}
}

// Documents that have one list of nodes in the arguments do not have it in an answer.
func TestPromise19OneListOfNodesForAll(t *testing.T) {
	doc := valueBehind(treeIn(`[1,[2],{"a":3}]`).value())
	var l []impl.Op
	b := impl.Base{Applied: 2, Sessions: []impl.Session{{Id: 1, No: 1}}}
	for k := range 5 {
		l = append(l, putOp(1, 2+k, 10+k, doc))
		b.Docs = append(b.Docs, impl.Stored{Id: k, Doc: doc})
	}
	before := tellBase(b)
	applied, okApplied := impl.ApplyOp(b, 2, l[0])
	told, okTold := impl.ApplyOp(b, 1, l[0])
	replayed, okReplayed := impl.ReplayOps(b, 2, l)
	none, okNone := impl.ReplayOps(b, 2, nil)
	fold, okFold := impl.FoldOps(l)
	one, okOne := impl.DocIn(b, 3)
	if !okApplied || !okTold || !okReplayed || !okNone || !okFold || !okOne || len(replayed.Docs) != 10 || len(fold.Docs) != 5 {
		t.Fatal(applied, told, replayed, none, fold, one)
	}
	pieces := []piece{nodesPiece(doc.Nodes), nodesPiece(one.Nodes)}
	for _, made := range []impl.Base{applied, told, replayed, none, fold} {
		pieces = append(pieces, basePieces(made)...)
	}
	if tellBase(b) != before {
		t.Errorf("the base is %v, not %s", b, before)
	}
	wantApart(t, "one list of nodes", pieces)
}

// On one base unlike ops are done: none of them sees what another one did.
func TestPromise19OpsOnOneBaseStandApart(t *testing.T) {
	arg := baseBehind(busyBase())
	var answers []impl.Base
	var told []string
	for id := range 12 {
		for _, o := range []impl.Op{putNumber(3, 6+id, id, id), delOp(40, 1000, id), putNumber(5+id, 1, 50+id, id), delOp(3, 1, id)} {
			b, ok := impl.ApplyOp(arg, 9, o)
			if !ok {
				t.Fatal(o)
			}
			answers = append(answers, b)
			told = append(told, tellBase(b))
		}
	}
	for k, b := range answers {
		if tellBase(b) != told[k] {
			t.Errorf("an op changed another one's answer: %v, not %s", b, told[k])
		}
	}
	if !sameBase(arg, busyBase()) {
		t.Errorf("the base is %v", arg)
	}
}

// Nothing is kept from call to call.
func TestPromise19BasesAnswerTheSameAgain(t *testing.T) {
	d := &dice{state: 169}
	args := func() opArgs {
		l := d.ops(d.below(50))
		b := folded(t, l)
		o := d.op(20, 9, 900)
		return opArgs{b, o, l, b.Applied - d.below(2), o.Id, o.No, opTextAsTold(o)}
	}
	for range 200 {
		a, other := args(), args()
		first := map[string]string{}
		for name, call := range opCalls() {
			first[name] = call(a).tell()
		}
		for _, call := range opCalls() {
			call(other)
		}
		for name, call := range opCalls() {
			if again := call(a).tell(); again != first[name] {
				t.Errorf("%s of %v is %s, not %s", name, a, again, first[name])
			}
		}
	}
}
