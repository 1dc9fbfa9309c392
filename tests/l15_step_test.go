package tests

import (
	"fmt"
	"slices"
	"strings"
	"testing"

	"loop.example/g00274/impl"
)

// paxosWith is busyPaxos with one thing changed.
func paxosWith(change func(p *impl.Paxos)) impl.Paxos {
	p := busyPaxos()
	change(&p)
	return p
}

func voterWith(k int, v impl.Voter) impl.Paxos {
	return paxosWith(func(p *impl.Paxos) { p.Voters[k] = v })
}

func askerWith(k int, change func(a *impl.Asker)) impl.Paxos {
	return paxosWith(func(p *impl.Paxos) { change(&p.Askers[k]) })
}

// filledTo has so many notes, those put in front being such as change nothing but that they leave.
func filledTo(p impl.Paxos, many int) impl.Paxos {
	for len(p.Notes) < many {
		p.Notes = slices.Insert(slices.Clone(p.Notes), 0, prepare(0, 0, 1))
	}
	return p
}

// withNote has a note behind all, and tells where.
func withNote(p impl.Paxos, n impl.Note) (impl.Paxos, int) {
	p.Notes = append(slices.Clone(p.Notes), n)
	return p, len(p.Notes) - 1
}

// wantTaken asks for what comes of a note that stands behind all: the notes that are there then are those ahead of it, and more.
func wantTaken(t *testing.T, what string, p impl.Paxos, n impl.Note, change func(want *impl.Paxos), more ...impl.Note) {
	t.Helper()
	with, k := withNote(p, n)
	want := impl.Paxos{Voters: slices.Clone(p.Voters), Askers: slices.Clone(p.Askers), Votes: slices.Clone(p.Votes)}
	want.Notes = slices.Concat(p.Notes, more)
	if change != nil {
		change(&want)
	}
	wantStep(t, what, with, takeStep(k), want)
}

func TestPromise15PaxAsk(t *testing.T) {
	for asker, ballot := range []int{6, 10, 8} {
		for _, value := range []string{"x", "eightbyt", "\x00", "\xff\xfe", "a"} {
			want := busyPaxos()
			want.Askers[asker] = impl.Asker{Round: want.Askers[asker].Round + 1, Ballot: ballot, Own: value, Asks: true}
			for voter := range 5 {
				want.Notes = append(want.Notes, prepare(asker, voter, ballot))
			}
			wantStep(t, "asked", busyPaxos(), askStep(asker, value), want)
		}
		for _, value := range []string{"", "ninebytes", strings.Repeat("x", 1000000)} {
			wantNoStep(t, "no value", busyPaxos(), askStep(asker, value))
		}
	}
	for _, asker := range append(anyNumbers(), 6) {
		if !between(asker, 0, 2) {
			wantNoStep(t, "no asker", busyPaxos(), askStep(asker, "x"))
		}
	}
	wantNoStep(t, "an asker less", paxosWith(func(p *impl.Paxos) { p.Askers, p.Notes = p.Askers[:2], p.Notes[:12] }), askStep(2, "x"))
}

func TestPromise15PaxAskOfTheLastRounds(t *testing.T) {
	for asker := range 3 {
		for _, asks := range []bool{true, false} {
			p := askerWith(asker, func(a *impl.Asker) {
				*a = impl.Asker{Round: 999}
				if asks {
					*a = impl.Asker{Round: 999, Ballot: 2997 + asker, Own: "o", Heard: []int{1, 2}, Had: 7, Value: "v", Asks: true}
				}
			})
			got, ok := impl.StepPaxos(p, askStep(asker, "x"))
			if want := (impl.Asker{Round: 1000, Ballot: 3000 + asker, Own: "x", Asks: true}); !ok || !sameAsker(got.Askers[asker], want) {
				t.Errorf("asked behind round 999: %v %v", got, ok)
			}
			if n := got.Notes[len(got.Notes)-1]; n != prepare(asker, 4, 3000+asker) {
				t.Errorf("the last note is %v", n)
			}
			wantNoStep(t, "asked behind round 1000", got, askStep(asker, "x"))
			p.Askers[asker].Round = 1000
			wantNoStep(t, "asked behind round 1000", p, askStep(asker, "x"))
			wantNoStep(t, "asked behind round 1000, no value", p, askStep(asker, ""))
		}
	}
}

// Notes for which there is no room are not written; the asker asks nevertheless.
func TestPromise15PaxAskWithRoomForSome(t *testing.T) {
	for room := range 9 {
		p := filledTo(busyPaxos(), 60-room)
		got, ok := impl.StepPaxos(p, askStep(0, "x"))
		want := slices.Clone(p.Notes)
		for voter := range min(room, 5) {
			want = append(want, prepare(0, voter, 6))
		}
		if !ok || !slices.Equal(got.Notes, want) || !sameAsker(got.Askers[0], impl.Asker{Round: 2, Ballot: 6, Own: "x", Asks: true}) || !impl.GoodPaxos(got) {
			t.Errorf("asked with room for %d: %v %v, not %v", room, got, ok, want)
		}
		wantStepAsTold(t, "asked with room for some", p, askStep(1, "x"))
	}
}

func TestPromise15TakePrepare(t *testing.T) {
	for _, v := range []impl.Voter{{}, {Promised: 1}, {Promised: 5}, {Promised: 7, Ballot: 3, Value: "a"}, {Promised: 7, Ballot: 7, Value: "eightbyt"}, {Promised: 9999}, {Promised: 10000, Ballot: 10000, Value: "z"}} {
		for _, ballot := range []int{v.Promised - 1, v.Promised, v.Promised + 1, 1, 10000} {
			if ballot < 1 || ballot > 10000 {
				continue
			}
			for k := range 5 {
				p, n := voterWith(k, v), prepare(1, k, ballot)
				if ballot <= v.Promised {
					wantTaken(t, "not above Promised", p, n, nil)
					continue
				}
				wantTaken(t, "above Promised", p, n, func(want *impl.Paxos) { want.Voters[k].Promised = ballot }, promise(1, k, ballot, v.Ballot, v.Value))
			}
		}
	}
}

// The note itself leaves room for what goes back.
func TestPromise15TakePrepareWhereAllIsFull(t *testing.T) {
	p := filledTo(busyPaxos(), 59)
	wantTaken(t, "full", p, prepare(2, 3, 5), func(want *impl.Paxos) { want.Voters[3].Promised = 5 }, promise(2, 3, 5, 0, ""))
	wantTaken(t, "full", p, prepare(0, 0, 7), nil)
	full, _ := withNote(p, prepare(0, 0, 10))
	for k := range 60 {
		wantStepAsTold(t, "full", full, takeStep(k))
	}
	wantNoStep(t, "full", full, takeStep(60))
}

func heardToo(asker int, heard ...int) func(want *impl.Paxos) {
	return func(want *impl.Paxos) { want.Askers[asker].Heard = heard }
}

func TestPromise15TakePromise(t *testing.T) {
	p := busyPaxos()
	wantTaken(t, "another ballot", p, promise(1, 1, 6, 0, ""), nil)
	wantTaken(t, "a later ballot", p, promise(1, 1, 8, 0, ""), nil)
	wantTaken(t, "the ballot of another asker", p, promise(1, 1, 5, 0, ""), nil)
	wantTaken(t, "one that does not ask", p, promise(0, 1, 3, 0, ""), nil)
	wantTaken(t, "heard before", p, promise(1, 0, 7, 3, "a"), nil)
	wantTaken(t, "heard before, with more", p, promise(1, 0, 7, 6, "z"), nil)
	wantTaken(t, "with no vote", p, promise(1, 1, 7, 0, ""), heardToo(1, 0, 1))
	wantTaken(t, "with a lesser vote", p, promise(1, 4, 7, 2, "z"), heardToo(1, 0, 4))
	wantTaken(t, "with a vote of the same ballot", p, promise(1, 2, 7, 3, "z"), heardToo(1, 0, 2))
	wantTaken(t, "with a greater vote", p, promise(1, 2, 7, 4, "z"), func(want *impl.Paxos) {
		want.Askers[1] = impl.Asker{Round: 2, Ballot: 7, Own: "bb", Heard: []int{0, 2}, Had: 4, Value: "z", Asks: true}
	})
	wantTaken(t, "with the first vote", p, promise(2, 4, 5, 1, "eightbyt"), func(want *impl.Paxos) {
		want.Askers[2] = impl.Asker{Round: 1, Ballot: 5, Own: "c", Heard: []int{1, 4}, Had: 1, Value: "eightbyt", Asks: true}
	})
	wantTaken(t, "ahead of one that was heard", p, promise(2, 0, 5, 0, ""), heardToo(2, 0, 1))
	wantTaken(t, "with a vote beyond the ballot", p, promise(2, 0, 5, 10000, "y"), func(want *impl.Paxos) {
		want.Askers[2] = impl.Asker{Round: 1, Ballot: 5, Own: "c", Heard: []int{0, 1}, Had: 10000, Value: "y", Asks: true}
	})
}

// asksNoMore is what comes of a majority: the Round stays.
func asksNoMore(asker int) func(want *impl.Paxos) {
	return func(want *impl.Paxos) { want.Askers[asker] = impl.Asker{Round: want.Askers[asker].Round} }
}

func acceptsFor(voters int, asker int, ballot int, value string) []impl.Note {
	var notes []impl.Note
	for voter := range voters {
		notes = append(notes, accept(asker, voter, ballot, value))
	}
	return notes
}

func TestPromise15TakePromiseOfAMajority(t *testing.T) {
	p := askerWith(2, func(a *impl.Asker) { a.Heard = []int{1, 3} })
	wantTaken(t, "Had 0", p, promise(2, 0, 5, 0, ""), asksNoMore(2), acceptsFor(5, 2, 5, "c")...)
	wantTaken(t, "a vote in the last one", p, promise(2, 4, 5, 4, "last"), asksNoMore(2), acceptsFor(5, 2, 5, "last")...)
	wantTaken(t, "heard before", p, promise(2, 3, 5, 4, "last"), nil)
	p = askerWith(1, func(a *impl.Asker) { a.Heard = []int{0, 4} })
	wantTaken(t, "Had ahead of it", p, promise(1, 1, 7, 0, ""), asksNoMore(1), acceptsFor(5, 1, 7, "a")...)
	wantTaken(t, "a lesser vote in the last one", p, promise(1, 1, 7, 2, "z"), asksNoMore(1), acceptsFor(5, 1, 7, "a")...)
	wantTaken(t, "the same in the last one", p, promise(1, 1, 7, 3, "z"), asksNoMore(1), acceptsFor(5, 1, 7, "a")...)
	wantTaken(t, "a greater vote in the last one", p, promise(1, 1, 7, 6, "z"), asksNoMore(1), acceptsFor(5, 1, 7, "z")...)
}

func TestPromise15TakePromiseOfSoManyVoters(t *testing.T) {
	for voters, most := range []int{0, 1, 2, 2, 3, 3} {
		if voters == 0 {
			continue
		}
		p, _ := impl.NewPaxos(voters, 1)
		p = doneOf(t, p, askStep(0, "own"))
		for voter := range voters {
			p = doneOf(t, p, prepare(0, voter, 3))
		}
		for heard := 1; heard <= voters; heard++ {
			p = doneOf(t, p, promise(0, voters-heard, 3, 0, ""))
			if asks := heard < most; p.Askers[0].Asks != asks || asks && len(p.Askers[0].Heard) != heard {
				t.Errorf("%d of %d voters are heard of: %v", heard, voters, p)
			}
		}
		if !slices.Equal(p.Notes, acceptsFor(voters, 0, 3, "own")) || !sameAsker(p.Askers[0], impl.Asker{Round: 1}) {
			t.Errorf("all of %d voters are heard of: %v", voters, p)
		}
	}
}

func TestPromise15TakePromiseWithRoomForSome(t *testing.T) {
	for room := 1; room < 9; room++ {
		p := filledTo(askerWith(2, func(a *impl.Asker) { a.Heard = []int{0, 4} }), 60-room)
		all := acceptsFor(5, 2, 5, "c")
		wantTaken(t, "room for some", p, promise(2, 1, 5, 0, ""), asksNoMore(2), all[:min(room, 5)]...)
		p = filledTo(askerWith(1, func(a *impl.Asker) { a.Heard = []int{0, 4} }), 60-room)
		all = acceptsFor(5, 1, 7, "z")
		wantTaken(t, "room for some", p, promise(1, 1, 7, 5, "z"), asksNoMore(1), all[:min(room, 5)]...)
	}
}

// An asker that has heard of a majority, or of all, and asks nevertheless is good, too: no steps make it.
func TestPromise15TakePromiseOfMoreThanAMajority(t *testing.T) {
	p := askerWith(2, func(a *impl.Asker) { a.Heard = []int{0, 1, 2, 3} })
	wantTaken(t, "the last one", p, promise(2, 4, 5, 0, ""), asksNoMore(2), acceptsFor(5, 2, 5, "c")...)
	wantTaken(t, "heard before", p, promise(2, 3, 5, 0, ""), nil)
	p = askerWith(2, func(a *impl.Asker) { a.Heard = []int{0, 1, 2, 3, 4} })
	wantTaken(t, "all heard before", p, promise(2, 4, 5, 7, "z"), nil)
}

func TestPromise15TakeAccept(t *testing.T) {
	for _, v := range []impl.Voter{{}, {Promised: 1}, {Promised: 7}, {Promised: 7, Ballot: 3, Value: "a"}, {Promised: 7, Ballot: 7, Value: "a"}, {Promised: 4, Ballot: 9, Value: "b"}, {Promised: 10000}} {
		for _, ballot := range []int{v.Promised - 1, v.Promised, v.Promised + 1, 1, 10000} {
			if ballot < 1 || ballot > 10000 {
				continue
			}
			for _, value := range []string{"a", "eightbyt"} {
				for k := range 5 {
					p, n := voterWith(k, v), accept(2, k, ballot, value)
					if ballot < v.Promised {
						wantTaken(t, "below Promised", p, n, nil)
						continue
					}
					wantTaken(t, "at least Promised", p, n, func(want *impl.Paxos) {
						want.Voters[k] = impl.Voter{Promised: ballot, Ballot: ballot, Value: value}
						want.Votes = append(want.Votes, vote(k, ballot, value))
					})
				}
			}
		}
	}
}

// A note that was doubled makes a second vote.
func TestPromise15TakeAcceptTwice(t *testing.T) {
	twice := []any{twiceStep(4), takeStep(4), takeStep(14)}
	if p := doneOf(t, busyPaxos(), twice...); !slices.Equal(p.Votes, busyPaxos().Votes) {
		t.Errorf("voter 4 has promised 7 and votes: %v", p)
	}
	p := doneOf(t, voterWith(4, impl.Voter{Promised: 3}), twice...)
	if want := append(busyPaxos().Votes, vote(4, 3, "a"), vote(4, 3, "a")); !slices.Equal(p.Votes, want) {
		t.Errorf("the votes are %v, not %v", p.Votes, want)
	}
}

// A vote more than 1000 goes beyond the limit; where the voter does not vote there is none.
func TestPromise15TakeAcceptOfTheLastVotes(t *testing.T) {
	with := func(many int) impl.Paxos {
		return paxosWith(func(p *impl.Paxos) { p.Votes = slices.Repeat([]impl.Vote{{Voter: 3, Ballot: 10000, Value: "v"}}, many) })
	}
	voted := func(want *impl.Paxos) {
		want.Voters[3] = impl.Voter{Promised: 3, Ballot: 3, Value: "a"}
		want.Votes = append(want.Votes, vote(3, 3, "a"))
	}
	wantTaken(t, "999 votes", with(999), accept(0, 3, 3, "a"), voted)
	p, k := withNote(with(1000), accept(0, 3, 3, "a"))
	wantNoStep(t, "1000 votes", p, takeStep(k))
	wantTaken(t, "1000 votes, no more", with(1000), accept(0, 0, 3, "a"), nil)
	wantTaken(t, "1000 votes, no more", with(1000), promise(1, 1, 7, 0, ""), heardToo(1, 0, 1))
	wantStepAsTold(t, "1000 votes", p, loseStep(k))
	wantStepAsTold(t, "1000 votes", p, twiceStep(k))
	wantStepAsTold(t, "1000 votes", p, askStep(0, "x"))
}

func TestPromise15PaxLoseAndPaxTwice(t *testing.T) {
	for k := range 15 {
		p, want := busyPaxos(), busyPaxos()
		want.Notes = slices.Delete(want.Notes, k, k+1)
		wantStep(t, "lost", p, loseStep(k), want)
		want = busyPaxos()
		want.Notes = append(want.Notes, want.Notes[k])
		wantStep(t, "twice", p, twiceStep(k), want)
	}
	for _, many := range []int{58, 59, 60} {
		p := filledTo(busyPaxos(), many)
		for _, k := range []int{0, 1, many - 1} {
			want := filledTo(busyPaxos(), many)
			want.Notes = append(want.Notes, want.Notes[k])
			if many < 60 {
				wantStep(t, "twice", p, twiceStep(k), want)
			} else {
				wantNoStep(t, "no room for it twice", p, twiceStep(k))
			}
			want.Notes = slices.Delete(want.Notes[:many], k, k+1)
			wantStep(t, "lost", p, loseStep(k), want)
		}
	}
}

func TestPromise15PlacesOfNoNote(t *testing.T) {
	for _, many := range []int{0, 1, 15, 59, 60} {
		p := paxosWith(func(p *impl.Paxos) { p.Notes = slices.Repeat([]impl.Note{accept(0, 1, 9, "n")}, many) })
		for _, k := range append(anyNumbers(), many, many-1, many+1) {
			for _, step := range []func(k int) impl.PaxosStep{takeStep, loseStep, twiceStep} {
				if k < 0 || k >= many {
					wantNoStep(t, "no note", p, step(k))
				} else {
					wantStepAsTold(t, "a note", p, step(k))
				}
			}
		}
	}
}

// One that does not ask cannot be made to ask no more: asker 0 has heard of a majority.
func TestPromise15PaxForget(t *testing.T) {
	wantNoStep(t, "has heard of a majority", busyPaxos(), forgetStep(0))
	for asker := 1; asker < 3; asker++ {
		want := busyPaxos()
		want.Askers[asker] = impl.Asker{Round: want.Askers[asker].Round}
		wantStep(t, "forgets", busyPaxos(), forgetStep(asker), want)
		wantNoStep(t, "forgets again", want, forgetStep(asker))
	}
	for _, asker := range append(anyNumbers(), 6) {
		if !between(asker, 0, 2) {
			wantNoStep(t, "no asker", busyPaxos(), forgetStep(asker))
		}
	}
	p := paxosWith(func(p *impl.Paxos) { p.Askers, p.Notes = p.Askers[:1], p.Notes[:5] })
	wantNoStep(t, "one asker", p, forgetStep(1))
	wantNoStep(t, "one asker, which does not ask", p, forgetStep(0))
	idle := paxosWith(func(p *impl.Paxos) { p.Askers[0].Heard = []int{} })
	wantNoStep(t, "an empty list, which does not ask", idle, forgetStep(0))
}

func TestPromise15PaxForgetOfOneThatNeverAsked(t *testing.T) {
	for voters := 1; voters <= 5; voters++ {
		for askers := 1; askers <= 3; askers++ {
			fresh, _ := impl.NewPaxos(voters, askers)
			for asker := range askers {
				wantNoStep(t, "never asked", fresh, forgetStep(asker))
				asked := doneOf(t, fresh, askStep(asker, "x"))
				for other := range askers {
					wantStepIsDone(t, "one asks", asked, forgetStep(other), other == asker)
				}
			}
		}
	}
}

// What an asker has heard of does not count, but where that was a majority it asks no more.
func TestPromise15PaxForgetByWhatWasHeardOf(t *testing.T) {
	for voters := 1; voters <= 5; voters++ {
		fresh, _ := impl.NewPaxos(voters, 1)
		p := doneOf(t, fresh, askStep(0, "x"))
		for range voters {
			p = doneOf(t, p, takeStep(0))
		}
		for heard := range voters {
			wantStepIsDone(t, fmt.Sprintf("heard of %d of %d", heard, voters), p, forgetStep(0), 2*heard <= voters)
			p = doneOf(t, p, takeStep(0))
		}
		wantNoStep(t, "heard of all", p, forgetStep(0))
	}
	for _, heard := range setsBelow(5) {
		p := askingWith(func(a *impl.Asker) { a.Heard = heard })
		wantStepIsDone(t, "asks, whatever it has heard of", p, forgetStep(1), true)
	}
}

func TestPromise15PlayPaxosOfPaxForget(t *testing.T) {
	forget, other := forgetStep(0), forgetStep(1)
	fresh, _ := impl.NewPaxos(1, 1)
	wantPlayed(t, 1, 1, []impl.PaxosStep{forget}, fresh, []bool{false})
	wantPlayed(t, 1, 1, slices.Repeat([]impl.PaxosStep{forget}, 200), fresh, make([]bool, 200))
	want := impl.Paxos{
		Voters: make([]impl.Voter, 2),
		Askers: []impl.Asker{{Round: 1}, {}},
		Notes:  []impl.Note{prepare(0, 0, 3), prepare(0, 1, 3)},
	}
	wantPlayed(t, 2, 2, []impl.PaxosStep{forget, askStep(0, "x"), other, forget, other, forget}, want, []bool{false, true, false, true, false, false})
	// One that has heard of a majority asks no more, and cannot be made to; asked once more it can.
	heard := []impl.PaxosStep{askStep(0, "x"), takeStep(0), takeStep(0), forget}
	wantPlayed(t, 1, 1, heard, impl.Paxos{
		Voters: []impl.Voter{{Promised: 3}},
		Askers: []impl.Asker{{Round: 1}},
		Notes:  []impl.Note{accept(0, 0, 3, "x")},
	}, []bool{true, true, true, false})
	wantPlayed(t, 1, 1, append(heard, askStep(0, "y"), forget, forget), impl.Paxos{
		Voters: []impl.Voter{{Promised: 3}},
		Askers: []impl.Asker{{Round: 2}},
		Notes:  []impl.Note{accept(0, 0, 3, "x"), prepare(0, 0, 6)},
	}, []bool{true, true, true, false, true, true, false})
}

// What one has forgotten is not heard of any more, and its next ballot is another one.
func TestPromise15WhatWasForgottenIsNotHeardOf(t *testing.T) {
	p := doneOf(t, busyPaxos(), forgetStep(1))
	wantTaken(t, "forgotten", p, promise(1, 1, 7, 0, ""), nil)
	p = doneOf(t, p, askStep(1, "new"))
	wantTaken(t, "the old ballot", p, promise(1, 1, 7, 0, ""), nil)
	wantTaken(t, "the new ballot", p, promise(1, 1, 10, 0, ""), heardToo(1, 1))
}

func TestPromise15StepsOfNoKind(t *testing.T) {
	for _, kind := range append(anyNumbers(), 6, 1<<32+2, -3) {
		if !between(kind, 1, 5) {
			wantNoStep(t, "no kind", busyPaxos(), impl.PaxosStep{Kind: kind, Value: "x"})
			wantNoStep(t, "no kind", filledTo(busyPaxos(), 60), impl.PaxosStep{Kind: kind, Asker: 1, Value: "x", K: 3})
		}
	}
}

// What a step's kind does not name does not count.
func TestPromise15FieldsThatAStepDoesNotName(t *testing.T) {
	p := busyPaxos()
	for _, n := range append(anyNumbers(), 6) {
		for asker := range 3 {
			want, _ := oracleStep(p, askStep(asker, "x"))
			wantStep(t, "asked", p, impl.PaxosStep{Kind: impl.PaxAsk, Asker: asker, Value: "x", K: n}, want)
			for _, value := range []string{"", "x", "ninebytes"} {
				wantStepIsDone(t, "forgets", p, impl.PaxosStep{Kind: impl.PaxForget, Asker: asker, Value: value, K: n}, asker > 0)
			}
		}
		for k, kind := range []int{impl.PaxTake, impl.PaxLose, impl.PaxTwice} {
			for _, value := range []string{"", "x", "ninebytes"} {
				want, _ := oracleStep(p, impl.PaxosStep{Kind: kind, K: k})
				wantStep(t, "a note", p, impl.PaxosStep{Kind: kind, Asker: n, Value: value, K: k}, want)
			}
		}
	}
}

// anyPaxos draws a good one, such as no steps need have made; values that stand at several places are often alike.
func (d *dice) anyPaxos() impl.Paxos {
	voters, askers := 1+d.below(5), 1+d.below(3)
	ballot := func() int { return []int{1, 2, 3, 4, 5, 6, 7, 10000}[d.below(8)] }
	value := func() string { return []string{"a", "b", "eightbyt"}[d.below(3)] }
	maybe := func() (int, string) {
		if d.below(2) == 0 {
			return 0, ""
		}
		return ballot(), value()
	}
	var p impl.Paxos
	for range voters {
		v := impl.Voter{Promised: ballot() - 1}
		v.Ballot, v.Value = maybe()
		p.Voters = append(p.Voters, v)
	}
	for range askers {
		a := impl.Asker{Round: []int{0, 1, 2, 999, 1000}[d.below(5)], Asks: d.below(3) > 0}
		if a.Asks {
			a.Ballot, a.Own, a.Heard = ballot(), value(), setsBelow(voters)[d.below(1<<voters)]
			a.Had, a.Value = maybe()
		}
		p.Askers = append(p.Askers, a)
	}
	for range []int{1 + d.below(12), 55 + d.below(6)}[d.below(4)/3] {
		had, with := maybe()
		asker, voter := d.below(askers), d.below(voters)
		p.Notes = append(p.Notes, []impl.Note{prepare(asker, voter, ballot()), promise(asker, voter, ballot(), had, with), accept(asker, voter, ballot(), value())}[d.below(3)])
	}
	for range d.below(12) {
		p.Votes = append(p.Votes, impl.Vote{Voter: d.below(voters), Ballot: ballot(), Value: value()})
	}
	return p
}

func TestPromise15StepsOfAnyGoodPaxos(t *testing.T) {
	d := &dice{state: 152}
	done, not := 0, 0
	for range 1500 {
		p := d.anyPaxos()
		wantAsPaxosRulesSay(t, "drawn", p)
		wantChosen(t, "drawn", p, oracleChosen(p)...)
		steps := []impl.PaxosStep{askStep(3, "x"), forgetStep(3), takeStep(-1), twiceStep(60)}
		for k := range 3 {
			steps = append(steps, askStep(k, "x"), forgetStep(k))
		}
		for k := range p.Notes {
			steps = append(steps, takeStep(k), []impl.PaxosStep{twiceStep(k), loseStep(k)}[d.below(2)])
		}
		for _, s := range steps {
			if wantStepAsTold(t, "drawn", p, s) {
				done++
			} else {
				not++
			}
		}
	}
	if done < 20000 || not < 5000 {
		t.Errorf("%d can be done and %d cannot: that tells little", done, not)
	}
}
