package tests

import (
	"slices"
	"strings"
	"testing"

	"loop.example/g00274/impl"
)

func TestPromise15MajorityOf(t *testing.T) {
	for n, want := range map[int]int{1: 1, 2: 2, 3: 2, 4: 3, 5: 3, 6: 4, 99: 50, 100: 51} {
		if got, ok := impl.MajorityOf(n); got != want || !ok {
			t.Errorf("MajorityOf(%d) is %d %v, not %d", n, got, ok, want)
		}
	}
	for n := 1; n <= 100; n++ {
		// Any two majorities have one in common, and no fewer do.
		if got, ok := impl.MajorityOf(n); 2*got <= n || 2*(got-1) > n || !ok {
			t.Errorf("MajorityOf(%d) is %d %v", n, got, ok)
		}
	}
	for _, n := range []int{0, -1, -2, -3, -100, 101, 102, 1000, least, greatest} {
		if got, ok := impl.MajorityOf(n); got != 0 || ok {
			t.Errorf("MajorityOf(%d) is %d %v", n, got, ok)
		}
	}
}

func TestPromise15BallotFor(t *testing.T) {
	for _, want := range []struct{ round, asker, ballot int }{{1, 0, 3}, {1, 1, 4}, {1, 2, 5}, {2, 0, 6}, {2, 1, 7}, {1000, 0, 3000}, {1000, 2, 3002}} {
		if got, ok := impl.BallotFor(want.round, want.asker); got != want.ballot || !ok {
			t.Errorf("BallotFor(%d, %d) is %d %v, not %d", want.round, want.asker, got, ok, want.ballot)
		}
	}
	for _, wrong := range [][2]int{{0, 0}, {0, 2}, {1001, 0}, {1001, 2}, {-1, 0}, {-1000, 1}, {1, -1}, {1, 3}, {1000, 3}, {1000, -1}, {0, 3}, {0, -1}, {1001, 3}, {1001, -1},
		{least, least}, {greatest, greatest}, {1, greatest}, {1, least}, {greatest, 0}, {least, 0}, {1 << 62, 2}} {
		if got, ok := impl.BallotFor(wrong[0], wrong[1]); got != 0 || ok {
			t.Errorf("BallotFor(%d, %d) is %d %v", wrong[0], wrong[1], got, ok)
		}
	}
}

// A ballot has one asker, and one round of it; a later round has a greater one, whoever asks.
func TestPromise15NoTwoHaveOneBallot(t *testing.T) {
	last, many := 0, 0
	for round := 1; round <= 1000; round++ {
		for asker := range impl.MaxAskers {
			got, ok := impl.BallotFor(round, asker)
			if got <= last || !ok {
				t.Errorf("BallotFor(%d, %d) is %d %v behind %d", round, asker, got, ok, last)
			}
			last = got
			many++
		}
	}
	if many != 3000 {
		t.Errorf("%d ballots", many)
	}
}

func TestPromise15NewPaxos(t *testing.T) {
	numbers := append(anyNumbers(), 6, -5)
	for _, voters := range numbers {
		for _, askers := range numbers {
			got, ok := impl.NewPaxos(voters, askers)
			if !between(voters, 1, 5) || !between(askers, 1, 3) {
				wantZeroPaxos(t, "NewPaxos", got, ok)
				continue
			}
			wantPaxos(t, "NewPaxos", got, ok, impl.Paxos{Voters: make([]impl.Voter, voters), Askers: make([]impl.Asker, askers)})
			if !impl.GoodPaxos(got) {
				t.Errorf("NewPaxos(%d, %d) is not good", voters, askers)
			}
			wantChosen(t, "a new one", got)
		}
	}
}

// busySteps lead, of five voters and three askers, to busyPaxos.
func busySteps() []impl.PaxosStep {
	return []impl.PaxosStep{
		askStep(0, "a"), takeStep(0), takeStep(0), takeStep(0), // the voters 0, 1 and 2 promise
		takeStep(2), takeStep(3), takeStep(2), // asker 0 has heard of 0, 2 and 1
		takeStep(2), takeStep(3), // the voters 0 and 2 vote
		askStep(1, "b"), forgetStep(1), askStep(1, "bb"),
		takeStep(10), takeStep(14), takeStep(13), // the voters 0 and 4 promise, asker 1 has heard of 0
		loseStep(5), loseStep(5), loseStep(5), twiceStep(2),
		askStep(2, "c"), takeStep(12), takeStep(12), takeStep(12), takeStep(14), // voter 0 does not promise, 1 and 2 do
	}
}

// busyPaxos has an asker that does not ask, one that has heard of a vote, and one that has heard of none.
func busyPaxos() impl.Paxos {
	return impl.Paxos{
		Voters: []impl.Voter{{Promised: 7, Ballot: 3, Value: "a"}, {Promised: 5}, {Promised: 5, Ballot: 3, Value: "a"}, {}, {Promised: 7}},
		Askers: []impl.Asker{
			{Round: 1},
			{Round: 2, Ballot: 7, Own: "bb", Heard: []int{0}, Had: 3, Value: "a", Asks: true},
			{Round: 1, Ballot: 5, Own: "c", Heard: []int{1}, Asks: true},
		},
		Notes: []impl.Note{
			prepare(0, 3, 3), prepare(0, 4, 3), accept(0, 1, 3, "a"), accept(0, 3, 3, "a"), accept(0, 4, 3, "a"),
			prepare(1, 3, 4), prepare(1, 4, 4), prepare(1, 1, 7), prepare(1, 2, 7), prepare(1, 3, 7),
			promise(1, 4, 7, 0, ""), accept(0, 1, 3, "a"), prepare(2, 3, 5), prepare(2, 4, 5), promise(2, 2, 5, 3, "a"),
		},
		Votes: []impl.Vote{vote(0, 3, "a"), vote(2, 3, "a")},
	}
}

func wantPlayed(t *testing.T, voters int, askers int, l []impl.PaxosStep, want impl.Paxos, wantDone []bool) {
	t.Helper()
	got, done, ok := impl.PlayPaxos(voters, askers, l)
	wantPaxos(t, "PlayPaxos", got, ok, want)
	if !slices.Equal(done, wantDone) {
		t.Errorf("PlayPaxos of %v does %v, not %v", l, done, wantDone)
	}
}

func wantNotPlayed(t *testing.T, what string, voters int, askers int, l []impl.PaxosStep) {
	t.Helper()
	got, done, ok := impl.PlayPaxos(voters, askers, l)
	wantZeroPaxos(t, what+": PlayPaxos", got, ok)
	if len(done) != 0 {
		t.Errorf("%s: PlayPaxos does %v", what, done)
	}
}

func TestPromise15PlayPaxos(t *testing.T) {
	steps := busySteps()
	wantPlayed(t, 5, 3, steps, busyPaxos(), slices.Repeat([]bool{true}, len(steps)))
	wantChosen(t, "two of five", busyPaxos())
	// The voters 1, 3 and 4 have still to vote: voter 3 does, and so a majority has.
	steps = append(steps, takeStep(3))
	played, _, _ := impl.PlayPaxos(5, 3, steps)
	wantChosen(t, "three of five", played, "a")
	// Asker 1 hears of 4 and 1: it wants what it has heard of, and not its own.
	steps = append(steps, takeStep(9), takeStep(6), takeStep(12))
	played, done, ok := impl.PlayPaxos(5, 3, steps)
	if want := accept(1, 4, 7, "a"); !ok || slices.Contains(done, false) || played.Notes[len(played.Notes)-1] != want || played.Askers[1].Asks {
		t.Errorf("PlayPaxos is %v %v %v, without %v at the end", played, done, ok, want)
	}
}

func TestPromise15PlayPaxosOfOneVoter(t *testing.T) {
	steps := []impl.PaxosStep{askStep(0, "only"), takeStep(0), takeStep(0), takeStep(0)}
	wantPlayed(t, 1, 1, steps, impl.Paxos{
		Voters: []impl.Voter{{Promised: 3, Ballot: 3, Value: "only"}},
		Askers: []impl.Asker{{Round: 1}},
		Votes:  []impl.Vote{vote(0, 3, "only")},
	}, []bool{true, true, true, true})
	again := append(steps, askStep(0, "other"), takeStep(0), takeStep(0), takeStep(0))
	wantPlayed(t, 1, 1, again, impl.Paxos{
		Voters: []impl.Voter{{Promised: 6, Ballot: 6, Value: "only"}},
		Askers: []impl.Asker{{Round: 2}},
		Votes:  []impl.Vote{vote(0, 3, "only"), vote(0, 6, "only")},
	}, slices.Repeat([]bool{true}, 8))
}

// What cannot be done changes nothing, and what stands behind it is done.
func TestPromise15PlayPaxosGoesOnBehindWhatCannotBeDone(t *testing.T) {
	wrong := []impl.PaxosStep{{}, takeStep(60), takeStep(-1), askStep(3, "x"), askStep(0, ""), askStep(0, "ninebytes"), forgetStep(-1), loseStep(99), twiceStep(99), {Kind: 6}, {Kind: least}}
	var steps []impl.PaxosStep
	var wantDone []bool
	for k, s := range busySteps() {
		steps = append(steps, wrong[k%len(wrong)], s, wrong[(k*3+1)%len(wrong)])
		wantDone = append(wantDone, false, true, false)
	}
	wantPlayed(t, 5, 3, steps, busyPaxos(), wantDone)
	fresh, _ := impl.NewPaxos(2, 2)
	wantPlayed(t, 2, 2, wrong, fresh, make([]bool, len(wrong)))
}

func TestPromise15PlayPaxosOfSoManySteps(t *testing.T) {
	fresh, _ := impl.NewPaxos(3, 2)
	wantPlayed(t, 3, 2, nil, fresh, nil)
	wantPlayed(t, 3, 2, []impl.PaxosStep{}, fresh, nil)
	wantNotPlayed(t, "one more", 3, 2, make([]impl.PaxosStep, 201))
	wantNotPlayed(t, "one more that forgets", 3, 2, slices.Repeat([]impl.PaxosStep{forgetStep(0)}, 201))
	wantNotPlayed(t, "a million", 3, 2, make([]impl.PaxosStep, 1000000))
	wantPlayed(t, 3, 2, make([]impl.PaxosStep, 200), fresh, make([]bool, 200))
	asks := slices.Repeat([]impl.PaxosStep{askStep(1, "x")}, 200)
	got, done, ok := impl.PlayPaxos(3, 2, asks)
	if !ok || len(done) != 200 || slices.Contains(done, false) || got.Askers[1].Round != 200 || got.Askers[1].Ballot != 601 || len(got.Notes) != 60 {
		t.Errorf("PlayPaxos of 200 asked is %v %v %v", got, done, ok)
	}
}

func TestPromise15PlayPaxosOfSoManyVoters(t *testing.T) {
	for _, voters := range append(anyNumbers(), 6) {
		for askers := -1; askers < 5; askers++ {
			if between(voters, 1, 5) && between(askers, 1, 3) {
				fresh, _ := impl.NewPaxos(voters, askers)
				wantPlayed(t, voters, askers, []impl.PaxosStep{takeStep(0)}, fresh, []bool{false})
			} else {
				wantNotPlayed(t, "too many or too few", voters, askers, nil)
				wantNotPlayed(t, "too many or too few", voters, askers, busySteps())
			}
		}
	}
}

// Two askers, one of which asks with a greater ballot behind what the first one brought about, whatever majority it hears of.
func TestPromise15WhatIsChosenStays(t *testing.T) {
	for _, heard := range [][]int{{0, 1}, {0, 2}, {1, 2}} {
		for _, voted := range [][]int{{0, 1}, {0, 2}, {1, 2}} {
			p, _ := impl.NewPaxos(3, 2)
			p = doneOf(t, p, askStep(0, "first"), prepare(0, 0, 3), prepare(0, 1, 3), promise(0, 0, 3, 0, ""), promise(0, 1, 3, 0, ""))
			for _, k := range voted {
				p = doneOf(t, p, accept(0, k, 3, "first"))
			}
			wantChosen(t, "a majority has voted", p, "first")
			p = doneOf(t, p, askStep(1, "second"))
			for _, k := range heard {
				had := p.Voters[k]
				p = doneOf(t, p, prepare(1, k, 4), promise(1, k, 4, had.Ballot, had.Value))
			}
			for k := range 3 {
				p = doneOf(t, p, accept(1, k, 4, "first"))
			}
			wantChosen(t, "voted again", p, "first")
		}
	}
}

// Where no majority can have voted yet the greater ballot may win.
func TestPromise15WhatIsNotChosenMayGo(t *testing.T) {
	p, _ := impl.NewPaxos(3, 2)
	p = doneOf(t, p, askStep(0, "first"), prepare(0, 0, 3), prepare(0, 1, 3), promise(0, 0, 3, 0, ""), promise(0, 1, 3, 0, ""))
	p = doneOf(t, p, accept(0, 0, 3, "first"), askStep(1, "second"), prepare(1, 1, 4), prepare(1, 2, 4))
	p = doneOf(t, p, accept(0, 1, 3, "first"), accept(0, 2, 3, "first"))
	wantChosen(t, "one has voted", p)
	p = doneOf(t, p, promise(1, 1, 4, 0, ""), promise(1, 2, 4, 0, ""), accept(1, 1, 4, "second"))
	wantChosen(t, "one has voted for each", p)
	p = doneOf(t, p, accept(1, 0, 4, "second"))
	wantChosen(t, "two have voted", p, "second")
	if want := []impl.Vote{vote(0, 3, "first"), vote(1, 4, "second"), vote(0, 4, "second")}; !slices.Equal(p.Votes, want) {
		t.Errorf("the votes are %v", p.Votes)
	}
}

// doneOf does steps, and takes notes by what they tell, not by where they stand.
func doneOf(t *testing.T, p impl.Paxos, steps ...any) impl.Paxos {
	t.Helper()
	for _, one := range steps {
		s, ok := one.(impl.PaxosStep)
		if !ok {
			s = takeStep(slices.Index(p.Notes, one.(impl.Note)))
		}
		next, ok := impl.StepPaxos(p, s)
		if !ok {
			t.Fatalf("%v cannot be done in %v", one, p)
		}
		p = next
	}
	return p
}

// The greatest ballot heard of counts, not the last one that was heard of.
func TestPromise15TheGreatestHadCounts(t *testing.T) {
	for _, order := range [][]int{{0, 1, 2}, {0, 2, 1}, {1, 0, 2}, {1, 2, 0}, {2, 0, 1}, {2, 1, 0}} {
		p := impl.Paxos{Voters: make([]impl.Voter, 5), Askers: []impl.Asker{{Round: 9, Ballot: 27, Own: "own", Asks: true}}}
		promises := []impl.Note{promise(0, 0, 27, 3, "low"), promise(0, 3, 27, 20, "high"), promise(0, 4, 27, 0, "")}
		for _, k := range order {
			p.Notes = append(p.Notes, promises[k])
		}
		p = doneOf(t, p, takeStep(0), takeStep(0), takeStep(0))
		if len(p.Notes) != 5 || p.Notes[4] != accept(0, 4, 27, "high") || !sameAsker(p.Askers[0], impl.Asker{Round: 9}) {
			t.Errorf("heard in the order %v: %v", order, p)
		}
	}
}

func TestPromise15ValuesOfEachByte(t *testing.T) {
	for c := range 256 {
		for _, length := range []int{1, 8} {
			value := strings.Repeat(string([]byte{byte(c)}), length)
			p, done, ok := impl.PlayPaxos(1, 3, []impl.PaxosStep{askStep(2, value), takeStep(0), takeStep(0), takeStep(0)})
			if !ok || slices.Contains(done, false) {
				t.Errorf("PlayPaxos with %q is %v %v", value, done, ok)
			}
			wantChosen(t, "any bytes", p, value)
		}
	}
}
