package tests

import (
	"fmt"
	"slices"
	"testing"

	"loop.example/g00274/impl"
)

// play draws steps of some voters and askers; behind one PaxAsk of each asker one of calm steps is another, one of safe others loses a note.
type play struct {
	voters int
	askers int
	calm   int
	safe   int
	steps  []impl.PaxosStep
}

// paxosStep draws mostly such steps as can be done.
func (d *dice) paxosStep(p *play, notes int) impl.PaxosStep {
	k, asker := notes, d.below(p.askers)
	if notes > 0 && d.below(40) > 0 {
		k = d.below(notes)
	}
	if len(p.steps) < p.askers {
		return askStep(len(p.steps), d.pick("abcdefgh"))
	}
	if d.below(p.calm) == 0 {
		return askStep(asker+d.below(12)/11, []string{"a", "b", "c", "d", "eightbyt", "f", "g", "", "ninebytes"}[d.below(9)])
	}
	if d.below(p.safe) == 0 {
		return loseStep(k)
	}
	switch d.below(24) {
	case 1, 2:
		return twiceStep(k)
	case 3:
		return []impl.PaxosStep{forgetStep(asker), {}, {Kind: 6}, takeStep(-1), forgetStep(-1)}[d.below(5)]
	case 4:
		return impl.PaxosStep{Kind: impl.PaxTake, K: k, Asker: d.below(9) - 4, Value: "not named"}
	}
	return takeStep(k)
}

// played draws steps, holds each of them against the tale, and tells what came of them, and whether each was done.
func (d *dice) played(t *testing.T, p *play, many int) (impl.Paxos, []bool) {
	t.Helper()
	now, _ := impl.NewPaxos(p.voters, p.askers)
	h := taleOf(now)
	var done []bool
	for len(p.steps) < many {
		s := d.paxosStep(p, len(now.Notes))
		p.steps = append(p.steps, s)
		can := h.happens(s)
		done = append(done, can)
		if !can {
			wantNoStep(t, "a play", now, s)
			continue
		}
		next, ok := impl.StepPaxos(now, s)
		if want := h.paxos(); !ok || !samePaxos(next, want) {
			t.Fatalf("StepPaxos(%v, %v) is\n%v %v, not\n%v", now, s, next, ok, want)
		}
		now = next
	}
	return now, done
}

// wantOneAtMost asks the promise itself, without the program's ChosenIn, too.
func wantOneAtMost(t *testing.T, p impl.Paxos) []string {
	t.Helper()
	chosen := oracleChosen(p)
	wantChosen(t, "a play", p, chosen...)
	if len(chosen) > 1 {
		t.Errorf("%q are chosen in %v", chosen, p)
	}
	valueOf := map[int]string{}
	for _, v := range p.Votes {
		if value, told := valueOf[v.Ballot]; told && value != v.Value {
			t.Errorf("the ballot %d has votes for %q and for %q in %v", v.Ballot, value, v.Value, p)
		}
		valueOf[v.Ballot] = v.Value
	}
	return chosen
}

// ballotsThatChose counts the ballots with which a majority has voted.
func ballotsThatChose(p impl.Paxos) int {
	many := 0
	for ballot := range 700 {
		votes := slices.DeleteFunc(slices.Clone(p.Votes), func(v impl.Vote) bool { return v.Ballot != ballot })
		if len(votes) > 0 && oracleIsChosen(votes, len(p.Voters), votes[0].Value) {
			many++
		}
	}
	return many
}

func TestPromise15OneValueAtMostIsChosen(t *testing.T) {
	d := &dice{state: 150}
	chosen, often, full, torn := 0, 0, 0, 0
	for range 3000 {
		p := &play{voters: 1 + d.below(5), askers: 1 + d.below(3), calm: []int{3, 6, 12, 40, 40}[d.below(5)], safe: []int{5, 30}[d.below(2)]}
		now, done := d.played(t, p, d.below(201))
		wantPlayed(t, p.voters, p.askers, p.steps, now, done)
		if !impl.GoodPaxos(now) {
			t.Errorf("PlayPaxos is not good: %v", now)
		}
		one := wantOneAtMost(t, now)
		chosen += len(one)
		if ballotsThatChose(now) > 1 {
			often++
		}
		if len(one) > 0 && slices.ContainsFunc(now.Votes, func(v impl.Vote) bool { return v.Value != one[0] }) {
			torn++
		}
		if len(now.Notes) == 60 {
			full++
		}
	}
	if chosen < 1000 || often < 600 || full < 40 || torn < 40 {
		t.Errorf("%d chosen, %d with several ballots, %d full, %d with votes for others, too: that tells little", chosen, often, full, torn)
	}
}

// What is chosen stays so at each later step of a play, and what is played is what is done step by step.
func TestPromise15PlaysAreStepsOneByOne(t *testing.T) {
	d := &dice{state: 151}
	for range 25 {
		p := &play{voters: 2 + d.below(4), askers: 2 + d.below(2), calm: 12, safe: 10}
		d.played(t, p, 120)
		now, _ := impl.NewPaxos(p.voters, p.askers)
		var done []bool
		var chosen []string
		for k, s := range p.steps {
			next, ok := impl.StepPaxos(now, s)
			done = append(done, ok)
			if ok {
				now = next
			}
			wantPlayed(t, p.voters, p.askers, p.steps[:k+1], now, done)
			if later := oracleChosen(now); len(chosen) > 0 && !slices.Equal(later, chosen) {
				t.Errorf("%q was chosen, and later %q in %v", chosen, later, now)
			}
			chosen = oracleChosen(now)
		}
	}
}

// All that can be made where each of two askers has asked once is held against the promise; a note may be lost by not being taken.
func TestPromise15AllThatThreeVotersCanMake(t *testing.T) {
	fresh, _ := impl.NewPaxos(3, 2)
	work := []impl.Paxos{doneOf(t, fresh, askStep(0, "a"), askStep(1, "b"))}
	seen := map[string]bool{}
	chosen, torn := map[string]int{}, 0
	for len(work) > 0 {
		p := work[len(work)-1]
		work = work[:len(work)-1]
		for _, value := range wantOneAtMost(t, p) {
			chosen[value]++
			if slices.ContainsFunc(p.Votes, func(v impl.Vote) bool { return v.Value != value }) {
				torn++
			}
		}
		for k := range p.Notes {
			next, ok := impl.StepPaxos(p, takeStep(k))
			if key := tellUnordered(next); ok && !seen[key] {
				seen[key] = true
				work = append(work, next)
			}
		}
	}
	if chosen["a"] < 300 || chosen["b"] < 300 || torn < 100 {
		t.Errorf("%v of %d chosen, %d with votes for others, too: that tells little", chosen, len(seen), torn)
	}
}

// tellUnordered tells two alike where their notes and votes alone stand in another order: what can be chosen behind both is the same.
func tellUnordered(p impl.Paxos) string {
	var lines []string
	for _, n := range p.Notes {
		lines = append(lines, fmt.Sprint(n))
	}
	for _, v := range p.Votes {
		lines = append(lines, fmt.Sprint(v))
	}
	slices.Sort(lines)
	return fmt.Sprint(p.Voters, p.Askers, lines)
}
