package tests

import (
	"fmt"
	"maps"
	"slices"
	"strings"
	"testing"

	"loop.example/g00274/impl"
)

// anyGroup draws groups that are hardly ever good, of as many of each as may be and of others.
func (d *dice) anyGroup(number func() int) impl.Group {
	g := impl.Group{Ops: d.anyOps(number)}
	for range []int{12, d.below(14)}[d.below(2)] {
		p := d.anyPaxos()
		if d.below(2) == 0 {
			p = choosing(d.below(7), d.textOf("01x", d.below(10)))
		}
		g.Places = append(g.Places, impl.Place{Paxos: p})
	}
	for range d.below(7) {
		r := impl.Replica{Base: impl.Base{Applied: number()}, Saved: d.disturbBase(busyBase())}
		for range []int{12, d.below(14)}[d.below(2)] {
			r.Known = append(r.Known, d.textOf("01x\xff", d.below(3)))
		}
		g.Replicas = append(g.Replicas, r)
	}
	return g
}

func TestPromise19GroupsOfAnyNumbers(t *testing.T) {
	d := &dice{state: 176}
	numbers := append(anyNumbers(), 6, 13, 1<<62, -1<<62)
	number := func() int { return numbers[d.below(len(numbers))] }
	for range 1500 {
		g := d.anyGroup(number)
		wantAsGroupRulesSay(t, "any numbers", g)
		wantPlayedAnyhow(t, g.Ops, number(), nil)
		wantPlayedAnyhow(t, g.Ops, 1+d.below(5), d.anyGroupSteps(number))
	}
}

func (d *dice) anyGroupSteps(number func() int) []impl.GroupStep {
	var l []impl.GroupStep
	for range []int{d.below(9), 155 + d.below(10)}[d.below(15)/14] {
		l = append(l, impl.GroupStep{Kind: d.below(9), Place: number(), Replica: number(), Op: number(), K: number()})
	}
	return l
}

// wantPlayedAnyhow asks NewGroup and PlayGroup whatever the ops, the number and the steps are.
func wantPlayedAnyhow(t *testing.T, ops []impl.Op, replicas int, l []impl.GroupStep) {
	t.Helper()
	if !between(len(ops), 1, 9) || !between(replicas, 1, 5) || slices.ContainsFunc(ops, func(o impl.Op) bool { return !oracleGoodOp(o) }) {
		wantNoNewGroup(t, "anyhow", ops, replicas)
		wantNotPlayedGroup(t, "anyhow", ops, replicas, l)
		return
	}
	wantNewGroup(t, "anyhow", ops, replicas)
	if len(l) > 160 {
		wantNotPlayedGroup(t, "anyhow", ops, replicas, l)
		return
	}
	h := newRowTale(ops, replicas)
	var done []bool
	for _, s := range l {
		done = append(done, h.happens(s))
		for place := range h.row {
			h.row[place] = oracleFirst(h.places[place].paxos(), len(ops))
		}
	}
	wantPlayedGroup(t, "anyhow", ops, replicas, l, h.group(), done)
}

func TestPromise19AnyStepOfAGoodGroup(t *testing.T) {
	d := &dice{state: 177}
	numbers := append(anyNumbers(), 6, 14, 15, 1<<62, -1<<62)
	number := func() int {
		if d.below(2) == 0 {
			return d.below(10)
		}
		return numbers[d.below(len(numbers))]
	}
	done := 0
	g := busyGroup()
	for range 4000 {
		s := impl.GroupStep{Kind: d.below(9), Place: number(), Replica: number(), Op: number(), K: number()}
		if d.below(8) == 0 {
			s.Kind = number()
		}
		done += asNumber(wantGroupStep(t, "any step", g, s))
	}
	if done < 200 {
		t.Errorf("only %d can be done", done)
	}
	for range 60 {
		ops := d.ops(1 + d.below(9))
		wantPlayedAnyhow(t, ops, 1+d.below(5), slices.Concat(d.anyGroupSteps(number), choosingSteps(0, 0, 0), d.anyGroupSteps(number)))
	}
}

// groupArgs are the arguments of all functions of the chapter.
type groupArgs struct {
	group   impl.Group
	step    impl.GroupStep
	steps   []impl.GroupStep
	ops     []impl.Op
	replica int
}

// groupAnswer holds the lists that a function of the chapter answers, and tells the rest.
type groupAnswer struct {
	group impl.Group
	base  impl.Base
	row   []int
	done  []bool
	told  string
}

// tellGroup tells the empty list and the nil list alike.
func tellGroup(g impl.Group) string {
	text := fmt.Sprint(g.Ops)
	for _, place := range g.Places {
		text += " " + tellPaxos(place.Paxos)
	}
	for _, r := range g.Replicas {
		text += fmt.Sprintf(" %q %s %s", r.Known, tellBase(r.Base), tellBase(r.Saved))
	}
	return text
}

func (a groupAnswer) tell() string {
	return fmt.Sprintf("%s %s %v %v %s", tellGroup(a.group), tellBase(a.base), a.row, a.done, a.told)
}

func groupPieces(g impl.Group) []piece {
	spoilt := impl.Place{Paxos: impl.Paxos{Voters: make([]impl.Voter, 77)}}
	all := append(opsPieces(g.Ops),
		pieceOf(g.Places, spoilt, func(p impl.Place) any { return len(p.Paxos.Voters) }),
		pieceOf(g.Replicas, impl.Replica{Known: make([]string, 77)}, func(r impl.Replica) any {
			return []int{len(r.Known), r.Base.Applied, r.Saved.Applied}
		}))
	for _, place := range g.Places[:cap(g.Places)] {
		all = append(all, paxosPieces(place.Paxos)...)
	}
	for _, r := range g.Replicas[:cap(g.Replicas)] {
		all = slices.Concat(all, []piece{textsPiece(r.Known)}, basePieces(r.Base), basePieces(r.Saved))
	}
	return all
}

func (a groupAnswer) pieces() []piece {
	done := pieceOf(a.done, true, func(b bool) any { return b })
	return slices.Concat(groupPieces(a.group), basePieces(a.base), []piece{numbersPiece(a.row), done})
}

func (a groupArgs) pieces() []piece {
	steps := pieceOf(a.steps, impl.GroupStep{Kind: 77}, func(s impl.GroupStep) any { return s })
	return slices.Concat(groupPieces(a.group), opsPieces(a.ops), []piece{steps})
}

func opsBehind(l []impl.Op) []impl.Op {
	return opArgs{ops: l}.behind().ops
}

func groupBehind(g impl.Group) impl.Group {
	made := impl.Group{Ops: opsBehind(g.Ops)}
	for _, place := range g.Places {
		made.Places = append(made.Places, impl.Place{Paxos: paxosArgs{paxos: place.Paxos}.behind().paxos})
	}
	for _, r := range g.Replicas {
		r.Known = withBehind(r.Known, "0", "behind")
		r.Base, r.Saved = baseBehind(r.Base), baseBehind(r.Saved)
		made.Replicas = append(made.Replicas, r)
	}
	made.Places = withBehind(made.Places, impl.Place{Paxos: choosing(5, "0")}, impl.Place{Paxos: choosing(6, "behind")})
	made.Replicas = withBehind(made.Replicas, impl.Replica{Known: []string{"behind"}, Base: busyBase()}, impl.Replica{})
	return made
}

// behind is the same in new memory, in which more lies behind each length.
func (a groupArgs) behind() groupArgs {
	a.group = groupBehind(a.group)
	a.ops = opsBehind(a.ops)
	a.steps = withBehind(a.steps, save(0), impl.GroupStep{Kind: -5})
	return a
}

func groupCalls() map[string]func(groupArgs) groupAnswer {
	return map[string]func(groupArgs) groupAnswer{
		"NewGroup": func(a groupArgs) groupAnswer {
			g, ok := impl.NewGroup(a.ops, a.replica)
			return groupAnswer{group: g, told: fmt.Sprint(ok)}
		},
		"GoodGroup": func(a groupArgs) groupAnswer {
			return groupAnswer{told: fmt.Sprint(impl.GoodGroup(a.group))}
		},
		"StepGroup": func(a groupArgs) groupAnswer {
			g, ok := impl.StepGroup(a.group, a.step)
			return groupAnswer{group: g, told: fmt.Sprint(ok)}
		},
		"PlayGroup": func(a groupArgs) groupAnswer {
			g, done, ok := impl.PlayGroup(a.ops, a.replica, a.steps)
			return groupAnswer{group: g, done: done, told: fmt.Sprint(ok)}
		},
		"RowOf": func(a groupArgs) groupAnswer {
			row, ok := impl.RowOf(a.group)
			return groupAnswer{row: row, told: fmt.Sprint(ok)}
		},
		"BaseOf": func(a groupArgs) groupAnswer {
			b, ok := impl.BaseOf(a.group, a.replica)
			return groupAnswer{base: b, told: fmt.Sprint(ok)}
		},
		"AgreeIn": func(a groupArgs) groupAnswer {
			agree, ok := impl.AgreeIn(a.group)
			return groupAnswer{told: fmt.Sprint(agree, ok)}
		},
	}
}

// someGroups are good ones, and such as break a rule.
func someGroups() []impl.Group {
	return []impl.Group{
		busyGroup(), newGroup(nineOps()[:2], 1), rowGroup(3, 0, 6, -1, 8),
		baseOfWith(2, crowdedBase(3, 20, 8), crowdedBase(60, 3, 1)),
		{}, newGroup(nil, 3), knownWith(1, 0, "8"), knownWith(1, 5, "9"), baseOfWith(2, crowdedBase(3, 21, 8), impl.Base{}),
		placeWith(3, noteWith(prepare(1, 2, 0))), groupWith(func(g *impl.Group) { g.Ops[8] = impl.Op{} }),
		groupWith(func(g *impl.Group) { g.Places = g.Places[:11] }), groupWith(func(g *impl.Group) { g.Replicas[4].Known = nil }),
	}
}

// someGroupArgs puts groups together with each kind of step.
func someGroupArgs() []groupArgs {
	steps := append(someGroupSteps(), askAt(11, 4, 8), askAt(12, 0, 0), takeAt(8, 14), takeAt(9, 0), twiceAt(9, 0), learnAt(0, 2), learnAt(4, 1), save(4), crash(4), crash(5))
	plays := [][]impl.GroupStep{
		nil, steps, slices.Concat(choosingSteps(0, 0, 0), choosingSteps(1, 1, 1), []impl.GroupStep{learnAt(1, 0), learnAt(0, 0), save(0), learnAt(0, 1)}),
		choosingSteps(0, 2, 0)[:7], make([]impl.GroupStep, 161),
	}
	ops := [][]impl.Op{nineOps()[:2], nineOps(), nil, {putOp(1, 1, 1, listOf(textTree("x")).value())}, {{}}}
	var all []groupArgs
	for n, g := range someGroups() {
		for k, s := range steps {
			if n < 4 || (n+k)%6 == 0 {
				all = append(all, groupArgs{g, s, plays[(n+k)%5], ops[(n+2*k)%5], 3 - (n+k)%5})
			}
		}
	}
	return append(all, groupArgs{busyGroup(), learnAt(0, 2), plays[2], nineOps(), 3}, groupArgs{busyGroup(), save(0), plays[1], nineOps(), 4})
}

func (a groupAnswer) wantNothingBehind(t *testing.T, what string) {
	t.Helper()
	wantEmptyBehind(t, what, a.row)
	wantEmptyBehind(t, what, a.done)
	for _, place := range a.group.Places {
		paxosAnswer{paxos: place.Paxos}.wantNothingBehind(t, what)
	}
	for _, r := range a.group.Replicas {
		wantEmptyBehind(t, what, r.Known)
		opAnswer{base: r.Base}.wantNothingBehind(t, what)
		opAnswer{base: r.Saved}.wantNothingBehind(t, what)
	}
	opAnswer{base: a.base}.wantNothingBehind(t, what)
	g := a.group
	behind := impl.Group{Ops: g.Ops[len(g.Ops):cap(g.Ops)], Places: g.Places[len(g.Places):cap(g.Places)], Replicas: g.Replicas[len(g.Replicas):cap(g.Replicas)]}
	zero := impl.Group{Ops: make([]impl.Op, len(behind.Ops)), Places: make([]impl.Place, len(behind.Places)), Replicas: make([]impl.Replica, len(behind.Replicas))}
	if !sameGroup(behind, zero) {
		t.Errorf("%s: behind the lists lies %v", what, behind)
	}
}

func TestPromise19GroupsStayAsTheyWere(t *testing.T) {
	for _, a := range someGroupArgs() {
		arg := a.behind()
		before := tellPieces(arg.pieces())
		for name, call := range groupCalls() {
			got, want := call(arg), call(a)
			if got.tell() != want.tell() {
				t.Errorf("%s reads what lies behind a length: %s, not %s", name, got.tell(), want.tell())
			}
			got.wantNothingBehind(t, name)
			for _, p := range got.pieces() {
				p.spoil()
			}
			if !slices.Equal(tellPieces(arg.pieces()), before) {
				t.Fatalf("%s writes into an argument, or it changed with an answer: %v", name, a)
			}
		}
	}
}

// wantAllApart asks of many lists, made anew for each bit of their numbers: any two differ in a bit, by which one of them is spoilt and the other is not.
func wantAllApart(t *testing.T, what string, made func() []piece) {
	t.Helper()
	for bit := 1; bit < len(made()); bit *= 2 {
		l := made()
		before := tellPieces(l)
		for k, p := range l {
			if k&bit > 0 {
				p.spoil()
			}
		}
		for k, now := range tellPieces(l) {
			if k&bit == 0 && now != before[k] {
				t.Fatalf("%s: the list %d of %d shares memory with another one", what, k, len(l))
			}
		}
	}
}

func TestPromise19GroupAnswersShareNothing(t *testing.T) {
	for k, a := range someGroupArgs() {
		if k%4 > 0 {
			continue
		}
		wantAllApart(t, fmt.Sprintf("the step is %v", a.step), func() []piece {
			arg := a.behind()
			pieces := arg.pieces()
			for _, name := range slices.Sorted(maps.Keys(groupCalls())) {
				pieces = slices.Concat(pieces, groupCalls()[name](arg).pieces(), groupCalls()[name](arg).pieces())
			}
			return pieces
		})
	}
}

// An answer stays as it was, whatever is done to the arguments later; so does what is answered next.
func TestPromise19GroupAnswersOfLaterChangedArguments(t *testing.T) {
	for _, a := range someGroupArgs() {
		for name, call := range groupCalls() {
			arg := a.behind()
			got := call(arg)
			before := got.tell()
			for _, p := range arg.pieces() {
				p.spoil()
			}
			if again := call(a); got.tell() != before || again.tell() != before {
				t.Errorf("%s of %v changed with an argument: %s, not %s", name, a, got.tell(), before)
			}
		}
	}
}

// oneListForAll has lists of which each stands at several places: documents, notes, Known, and what is in a Base and in the Saved one.
func oneListForAll() impl.Group {
	doc := valueBehind(treeIn(`[1,[2],{"a":3}]`).value())
	base := baseBehind(doneOnNothing(putOp(1, 1, 1, doc), putOp(1, 2, 2, doc)))
	for k := range base.Docs {
		base.Docs[k].Doc = doc
	}
	o := putOp(1, 3, 3, doc)
	one := paxosArgs{paxos: asked(5, 0, "0")}.behind().paxos
	one.Votes = choosing(5, "0").Votes
	r := impl.Replica{Known: withBehind(slices.Repeat([]string{"0"}, 12), "behind"), Base: base, Saved: base}
	return impl.Group{Ops: []impl.Op{o, o, o}, Places: slices.Repeat([]impl.Place{{Paxos: one}}, 12), Replicas: slices.Repeat([]impl.Replica{r}, 5)}
}

func doneOnNothing(l ...impl.Op) impl.Base {
	b, _ := oracleReplay(impl.Base{}, 0, l)
	return b
}

func TestPromise19OneListForAllOfAGroup(t *testing.T) {
	for _, s := range []impl.GroupStep{askAt(0, 0, 0), takeAt(3, 0), loseAt(11, 4), twiceAt(0, 1), learnAt(2, 0), learnAt(11, 4), save(0), crash(3)} {
		g := oneListForAll()
		before := tellGroup(g)
		wantGroupStepIsDone(t, "one list", g, s, true)
		wantAnswers(t, "one list", g)
		if tellGroup(g) != before {
			t.Errorf("%v writes into the group: %v, not %s", s, g, before)
		}
		wantAllApart(t, fmt.Sprint("one list, ", s), func() []piece {
			arg := oneListForAll()
			got, _ := impl.StepGroup(arg, s)
			b, _ := impl.BaseOf(arg, 1)
			c, _ := impl.BaseOf(arg, 1)
			fresh, _ := impl.NewGroup(arg.Ops, 2)
			return slices.Concat(groupPieces(got), basePieces(b), basePieces(c), groupPieces(fresh), []piece{nodesPiece(arg.Ops[0].Doc.Nodes)})
		})
	}
}

// Of one group unlike steps are done: none of them sees what another one did.
func TestPromise19StepsOfOneGroupStandApart(t *testing.T) {
	arg := groupBehind(busyGroup())
	var answers []impl.Group
	var told []string
	for k := range 12 {
		for _, s := range []impl.GroupStep{askAt(k, k%5, k%9), takeAt(8, k), twiceAt(8, k), loseAt(9, k), learnAt(k, k%5), learnAt(0, k%5), save(k % 5), crash(k % 5)} {
			g, _ := impl.StepGroup(arg, s)
			answers = append(answers, g)
			told = append(told, tellGroup(g))
		}
	}
	for k, g := range answers {
		if tellGroup(g) != told[k] {
			t.Errorf("a step changed another one's answer: %v, not %s", g, told[k])
		}
	}
	if !sameGroup(arg, busyGroup()) {
		t.Errorf("the group is %v", arg)
	}
}

// What is saved is no part of what is done: neither changes with the other one, by whichever step it came there.
func TestPromise19BaseAndSavedStandApart(t *testing.T) {
	for _, s := range []impl.GroupStep{save(0), crash(0), save(4), crash(4)} {
		g, ok := impl.StepGroup(busyGroup(), s)
		r := g.Replicas[s.Replica]
		if !ok || !sameBase(r.Base, r.Saved) {
			t.Fatalf("%v makes %v", s, r)
		}
		before := tellBase(r.Saved)
		for _, p := range basePieces(r.Base) {
			p.spoil()
		}
		if tellBase(r.Saved) != before {
			t.Errorf("behind %v what is saved changes with the base: %v", s, r)
		}
	}
}

func TestPromise19LongTextsInAGroup(t *testing.T) {
	long := strings.Repeat("0", 1000000)
	wantBrokenGroup(t, "Known", knownWith(2, 11, long))
	wantBrokenGroup(t, "a vote", placeWith(11, voteWith(vote(0, 3, long))))
	wantBrokenGroup(t, "Own", placeWith(11, askingWith(func(a *impl.Asker) { a.Own = long })))
	wantNoNewGroup(t, "a document", []impl.Op{putOp(1, 1, 1, textTree(long).value())}, 3)
}
