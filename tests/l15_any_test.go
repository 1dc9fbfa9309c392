package tests

import (
	"fmt"
	"maps"
	"slices"
	"strings"
	"testing"

	"loop.example/g00274/impl"
)

func TestPromise19PaxosOfAnyNumbers(t *testing.T) {
	d := &dice{state: 155}
	numbers := append(anyNumbers(), 6, 10000, 10001, 1<<62, -1<<62)
	number := func() int { return numbers[d.below(len(numbers))] }
	text := func() string { return d.textOf("a\xff", d.below(10)) }
	for range 3000 {
		var p impl.Paxos
		for range d.below(7) {
			p.Voters = append(p.Voters, impl.Voter{Promised: number(), Ballot: number(), Value: text()})
		}
		for range d.below(5) {
			a := impl.Asker{Round: number(), Ballot: number(), Own: text(), Had: number(), Value: text(), Asks: d.below(2) == 0}
			for range d.below(4) {
				a.Heard = append(a.Heard, number())
			}
			p.Askers = append(p.Askers, a)
		}
		for range d.below(5) {
			p.Notes = append(p.Notes, impl.Note{Kind: number(), Asker: number(), Voter: number(), Ballot: number(), Had: number(), Value: text()})
			p.Votes = append(p.Votes, impl.Vote{Voter: number(), Ballot: number(), Value: text()})
		}
		wantAsPaxosRulesSay(t, "any numbers", p)
	}
}

func TestPromise19AnyStepOfAGoodPaxos(t *testing.T) {
	d := &dice{state: 156}
	numbers := append(anyNumbers(), 6, 14, 15, 1<<62, -1<<62)
	number := func() int { return numbers[d.below(len(numbers))] }
	done := 0
	for range 6000 {
		s := impl.PaxosStep{Kind: d.below(7), Asker: number(), Value: d.textOf("a\xff\x00", d.below(11)), K: number()}
		if d.below(8) == 0 {
			s.Kind = number()
		}
		if wantStepAsTold(t, "any step", busyPaxos(), s) {
			done++
		}
	}
	if done < 500 {
		t.Errorf("only %d can be done", done)
	}
	wantNoStep(t, "a value of a million bytes", busyPaxos(), askStep(0, strings.Repeat("x", 1000000)))
}

func TestPromise19AnyStepsArePlayed(t *testing.T) {
	d := &dice{state: 157}
	numbers := append(anyNumbers(), 6)
	number := func() int { return numbers[d.below(len(numbers))] }
	for range 300 {
		voters, askers := 1+d.below(5), 1+d.below(3)
		var steps []impl.PaxosStep
		for range d.below(201) {
			steps = append(steps, impl.PaxosStep{Kind: d.below(8) - 1, Asker: number(), Value: d.textOf("ab", d.below(10)), K: number()})
		}
		fresh, _ := impl.NewPaxos(voters, askers)
		h := taleOf(fresh)
		var done []bool
		for _, s := range steps {
			done = append(done, h.happens(s))
		}
		wantPlayed(t, voters, askers, steps, h.paxos(), done)
		wantNotPlayed(t, "no voters", 0, askers, steps)
		wantNotPlayed(t, "too many askers", voters, 4, steps)
	}
}

// paxosArgs are the arguments of all functions of the chapter.
type paxosArgs struct {
	paxos  impl.Paxos
	step   impl.PaxosStep
	steps  []impl.PaxosStep
	voters int
	askers int
}

// paxosAnswer holds the lists that a function of the chapter answers, and tells the rest.
type paxosAnswer struct {
	paxos  impl.Paxos
	done   []bool
	chosen []string
	told   string
}

// tellPaxos tells the empty list and the nil list alike.
func tellPaxos(p impl.Paxos) string {
	return fmt.Sprintf("%v %v %v %v", p.Voters, p.Askers, p.Notes, p.Votes)
}

func (a paxosAnswer) tell() string {
	return fmt.Sprintf("%s %v %q %s", tellPaxos(a.paxos), a.done, a.chosen, a.told)
}

// paxosPieces are its lists, and what each asker has Heard.
func paxosPieces(p impl.Paxos) []piece {
	all := []piece{
		pieceOf(p.Voters, impl.Voter{Promised: 77, Value: "spoilt"}, func(v impl.Voter) any { return v }),
		pieceOf(p.Askers, impl.Asker{Round: 77, Own: "spoilt"}, func(a impl.Asker) any {
			return []any{a.Round, a.Ballot, a.Own, len(a.Heard), a.Had, a.Value, a.Asks}
		}),
		pieceOf(p.Notes, impl.Note{Kind: 77, Value: "spoilt"}, func(n impl.Note) any { return n }),
		pieceOf(p.Votes, impl.Vote{Voter: 77, Value: "spoilt"}, func(v impl.Vote) any { return v }),
	}
	for _, a := range p.Askers[:cap(p.Askers)] {
		all = append(all, numbersPiece(a.Heard))
	}
	return all
}

func (a paxosAnswer) pieces() []piece {
	done := pieceOf(a.done, true, func(b bool) any { return b })
	return append(paxosPieces(a.paxos), done, textsPiece(a.chosen))
}

func (a paxosArgs) pieces() []piece {
	return append(paxosPieces(a.paxos), pieceOf(a.steps, impl.PaxosStep{Kind: 77, Value: "spoilt"}, func(s impl.PaxosStep) any { return s }))
}

func withBehind[E any](l []E, more ...E) []E {
	return slices.Concat(l, more)[:len(l)]
}

// behind is the same in new memory, in which more lies behind each length.
func (a paxosArgs) behind() paxosArgs {
	p := impl.Paxos{
		Voters: withBehind(a.paxos.Voters, impl.Voter{Promised: 9, Ballot: 9, Value: "behind"}, impl.Voter{Promised: -5}),
		Askers: withBehind(a.paxos.Askers, impl.Asker{Round: 9, Heard: []int{5}, Asks: true}, impl.Asker{}),
		Notes:  withBehind(a.paxos.Notes, accept(0, 0, 9, "behind"), impl.Note{Kind: -5}),
		Votes:  withBehind(a.paxos.Votes, vote(0, 9, "behind"), vote(1, 9, "behind"), vote(2, 9, "behind")),
	}
	for k := range p.Askers {
		p.Askers[k].Heard = withBehind(p.Askers[k].Heard, 0, 1, 2, -5)
	}
	return paxosArgs{p, a.step, withBehind(a.steps, askStep(0, "behind"), impl.PaxosStep{Kind: -5}), a.voters, a.askers}
}

func paxosCalls() map[string]func(paxosArgs) paxosAnswer {
	return map[string]func(paxosArgs) paxosAnswer{
		"NewPaxos": func(a paxosArgs) paxosAnswer {
			p, ok := impl.NewPaxos(a.voters, a.askers)
			return paxosAnswer{paxos: p, told: fmt.Sprint(ok)}
		},
		"GoodPaxos": func(a paxosArgs) paxosAnswer {
			return paxosAnswer{told: fmt.Sprint(impl.GoodPaxos(a.paxos))}
		},
		"StepPaxos": func(a paxosArgs) paxosAnswer {
			p, ok := impl.StepPaxos(a.paxos, a.step)
			return paxosAnswer{paxos: p, told: fmt.Sprint(ok)}
		},
		"PlayPaxos": func(a paxosArgs) paxosAnswer {
			p, done, ok := impl.PlayPaxos(a.voters, a.askers, a.steps)
			return paxosAnswer{paxos: p, done: done, told: fmt.Sprint(ok)}
		},
		"ChosenIn": func(a paxosArgs) paxosAnswer {
			l, ok := impl.ChosenIn(a.paxos)
			return paxosAnswer{chosen: l, told: fmt.Sprint(ok)}
		},
		"BallotFor": func(a paxosArgs) paxosAnswer {
			n, ok := impl.BallotFor(a.voters, a.askers)
			return paxosAnswer{told: fmt.Sprint(n, ok)}
		},
		"MajorityOf": func(a paxosArgs) paxosAnswer {
			n, ok := impl.MajorityOf(a.voters)
			return paxosAnswer{told: fmt.Sprint(n, ok)}
		},
	}
}

// somePaxos are good ones, and such as break a rule, each small enough to be told often.
func somePaxos() []impl.Paxos {
	fresh, _ := impl.NewPaxos(1, 1)
	all := []impl.Paxos{
		fresh, busyPaxos(), filledTo(busyPaxos(), 59), filledTo(busyPaxos(), 60),
		votesOf(3, vote(0, 3, "a"), vote(1, 3, "a"), vote(0, 6, "b"), vote(2, 6, "b")),
		askerWith(1, func(a *impl.Asker) { a.Heard = []int{0, 2} }),
		askerWith(2, func(a *impl.Asker) { a.Heard = []int{} }),
	}
	for _, broken := range allBroken() {
		for _, what := range slices.Sorted(maps.Keys(broken)) {
			if !strings.Contains(what, "million") && !strings.Contains(what, "too many") {
				all = append(all, broken[what])
			}
		}
	}
	return all
}

// somePaxosArgs puts paxos together with each kind of step.
func somePaxosArgs() []paxosArgs {
	steps := []impl.PaxosStep{{}, askStep(0, "x"), askStep(1, "y"), askStep(2, "ninebytes"), askStep(-1, "x"), forgetStep(1), forgetStep(0), forgetStep(3), loseStep(0), loseStep(99), twiceStep(1), twiceStep(least)}
	for _, k := range []int{0, 1, 2, 7, 10, 11, 14, 15, 59, greatest} {
		steps = append(steps, takeStep(k))
	}
	plays := [][]impl.PaxosStep{nil, busySteps(), busySteps()[:7], {{}, askStep(0, "x"), takeStep(9)}, make([]impl.PaxosStep, 201)}
	var all []paxosArgs
	for n, p := range somePaxos() {
		for k, s := range steps {
			if n < 7 || (n+k)%5 == 0 {
				all = append(all, paxosArgs{p, s, plays[(n+k)%len(plays)], 5 - (n+k)%7, 3 - k%4})
			}
		}
	}
	return all
}

func (a paxosAnswer) wantNothingBehind(t *testing.T, what string) {
	t.Helper()
	wantEmptyBehind(t, what, a.paxos.Voters)
	wantEmptyBehind(t, what, a.paxos.Notes)
	wantEmptyBehind(t, what, a.paxos.Votes)
	wantEmptyBehind(t, what, a.done)
	wantEmptyBehind(t, what, a.chosen)
	for _, one := range a.paxos.Askers {
		wantEmptyBehind(t, what, one.Heard)
	}
	for _, one := range a.paxos.Askers[len(a.paxos.Askers):cap(a.paxos.Askers)] {
		if !sameAsker(one, impl.Asker{}) {
			t.Errorf("%s: behind the askers lies %v", what, one)
		}
	}
}

func TestPromise19PaxosStayAsTheyWere(t *testing.T) {
	for _, a := range somePaxosArgs() {
		arg := a.behind()
		before := tellPieces(arg.pieces())
		for name, call := range paxosCalls() {
			got, want := call(arg), call(a)
			if got.tell() != want.tell() {
				t.Errorf("%s reads what lies behind a length: %s, not %s", name, got.tell(), want.tell())
			}
			got.wantNothingBehind(t, name)
			for _, p := range got.pieces() {
				p.spoil()
			}
			if !slices.Equal(tellPieces(arg.pieces()), before) {
				t.Fatalf("%s writes into an argument, or it changed with an answer: %v", name, a)
			}
		}
	}
}

func TestPromise19PaxosAnswersShareNothing(t *testing.T) {
	for k, a := range somePaxosArgs() {
		if k%4 > 0 {
			continue
		}
		arg := a.behind()
		pieces := arg.pieces()
		for range 2 {
			for _, call := range paxosCalls() {
				pieces = append(pieces, call(arg).pieces()...)
			}
		}
		wantApart(t, fmt.Sprintf("the step is %v", a.step), pieces)
	}
}

// An answer stays as it was, whatever is done to the arguments later; so does what is answered next.
func TestPromise19PaxosAnswersOfLaterChangedArguments(t *testing.T) {
	for _, a := range somePaxosArgs() {
		for name, call := range paxosCalls() {
			arg := a.behind()
			got := call(arg)
			before := got.tell()
			for _, p := range arg.pieces() {
				p.spoil()
			}
			if again := call(a); got.tell() != before || again.tell() != before {
				t.Errorf("%s of %v changed with an argument: %s, not %s", name, a, got.tell(), before)
			}
		}
	}
}

// Of one paxos unlike steps are taken: none of them sees what another one did.
func TestPromise19StepsOfOnePaxosStandApart(t *testing.T) {
	arg := paxosArgs{paxos: busyPaxos()}.behind().paxos
	var answers []impl.Paxos
	var told []string
	for k := range 15 {
		for _, s := range []impl.PaxosStep{takeStep(k), twiceStep(k), loseStep(k), askStep(k%3, "x")} {
			p, _ := impl.StepPaxos(arg, s)
			answers = append(answers, p)
			told = append(told, tellPaxos(p))
		}
	}
	for k, p := range answers {
		if tellPaxos(p) != told[k] {
			t.Errorf("a step changed another one's answer: %v, not %s", p, told[k])
		}
	}
	if !samePaxos(arg, busyPaxos()) {
		t.Errorf("the paxos is %v", arg)
	}
}

// Askers that have one list of Heard in common do not have it in an answer.
func TestPromise19OneListOfHeardForAll(t *testing.T) {
	heard := []int{1, 3, 4}[:2]
	p := askerWith(1, func(a *impl.Asker) { a.Heard = heard })
	p.Askers[2].Heard = heard
	before := tellPaxos(p)
	got := doneOf(t, p, twiceStep(0))
	wantApart(t, "one list", append(paxosPieces(got), numbersPiece(heard)))
	p.Askers[1].Heard, p.Askers[2].Heard = []int{1, 3}, []int{1, 3, 4}[:2]
	if tellPaxos(p) != before {
		t.Errorf("it is %v, not %s", p, before)
	}
	next, k := withNote(p, promise(2, 0, 5, 0, ""))
	wantStepAsTold(t, "one list", next, takeStep(k))
}

// Nothing is kept from call to call.
func TestPromise19PaxosAnswerTheSameAgain(t *testing.T) {
	d := &dice{state: 158}
	args := func() paxosArgs {
		p := &play{voters: 1 + d.below(5), askers: 1 + d.below(3), calm: 9, safe: 9}
		now, _ := d.played(t, p, d.below(60))
		return paxosArgs{now, d.paxosStep(p, len(now.Notes)), p.steps, p.voters, p.askers}
	}
	for range 150 {
		a, other := args(), args()
		first := map[string]string{}
		for name, call := range paxosCalls() {
			first[name] = call(a).tell()
		}
		for _, call := range paxosCalls() {
			call(other)
		}
		for name, call := range paxosCalls() {
			if again := call(a).tell(); again != first[name] {
				t.Errorf("%s of %v is %s, not %s", name, a, again, first[name])
			}
		}
	}
}
