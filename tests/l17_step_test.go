package tests

import (
	"fmt"
	"slices"
	"testing"

	"loop.example/g00274/impl"
)

func wantNewGroup(t *testing.T, what string, ops []impl.Op, replicas int) {
	t.Helper()
	g, ok := impl.NewGroup(ops, replicas)
	wantGroup(t, what+": NewGroup", g, ok, newGroup(ops, replicas))
	wantAnswers(t, what, g)
	wantPlayedGroup(t, what, ops, replicas, nil, newGroup(ops, replicas), nil)
}

func wantNoNewGroup(t *testing.T, what string, ops []impl.Op, replicas int) {
	t.Helper()
	g, ok := impl.NewGroup(ops, replicas)
	wantZeroGroup(t, what+": NewGroup", g, ok)
	wantNotPlayedGroup(t, what, ops, replicas, nil)
	wantNotPlayedGroup(t, what, ops, replicas, []impl.GroupStep{save(0)})
}

func TestPromise17NewGroup(t *testing.T) {
	ten := append(nineOps(), nineOps()[0])
	for ops := range 11 {
		for replicas := -1; replicas < 8; replicas++ {
			what := fmt.Sprint(ops, " ops, ", replicas, " replicas")
			if between(ops, 1, 9) && between(replicas, 1, 5) {
				wantNewGroup(t, what, ten[:ops], replicas)
			} else {
				wantNoNewGroup(t, what, ten[:ops], replicas)
			}
		}
	}
	for _, n := range []int{-1, -5, 6, 1000000, 1 << 32, 1<<32 + 1, least, least + 1, greatest} {
		wantNoNewGroup(t, "so many replicas", nineOps(), n)
	}
	wantNoNewGroup(t, "no ops", nil, 1)
	wantNoNewGroup(t, "a million ops", slices.Repeat(nineOps()[:1], 1000000), 1)
	for what, o := range badOps() {
		wantNoNewGroup(t, what, []impl.Op{o}, 3)
		for k := range 9 {
			l := nineOps()
			l[k] = o
			wantNoNewGroup(t, what, l, 3)
		}
	}
}

// Each number that a kind names: below what it may be, the first, one between, the last, and one more.
func TestPromise17StepsOfEachNumber(t *testing.T) {
	g := busyGroup()
	places := []int{least, -1, 0, 2, 8, 9, 11, 12, greatest}
	replicas := []int{least, -1, 0, 1, 3, 4, 5, greatest}
	for _, place := range places {
		for _, replica := range replicas {
			for _, op := range []int{least, -1, 0, 4, 8, 9, greatest} {
				wantGroupStepIsDone(t, "ask", g, askAt(place, replica, op),
					between(place, 0, 11) && between(replica, 0, 4) && between(op, 0, 8) && (place != 11 || replica%3 > 0))
			}
		}
	}
	for place := -1; place <= 12; place++ {
		many := map[int]int{2: 5, 8: 15, 9: 60}[place]
		for _, k := range []int{least, -1, 0, 1, many - 1, many, many + 1, 59, 60, greatest} {
			isNote := between(k, 0, many-1)
			wantGroupStepIsDone(t, "take", g, takeAt(place, k), isNote)
			wantGroupStepIsDone(t, "lose", g, loseAt(place, k), isNote)
			wantGroupStepIsDone(t, "twice", g, twiceAt(place, k), isNote && many < 60)
		}
		for _, replica := range replicas {
			isChosen := slices.Contains([]int{0, 1, 3, 6, 11}, place)
			wantGroupStepIsDone(t, "learn", g, learnAt(place, replica), isChosen && between(replica, 0, 4))
		}
	}
	for _, replica := range replicas {
		wantGroupStepIsDone(t, "crash", g, crash(replica), between(replica, 0, 4))
		wantGroupStepIsDone(t, "save", g, save(replica), between(replica, 0, 4))
	}
}

func TestPromise17StepsOfNoKind(t *testing.T) {
	for _, kind := range []int{least, -1, 0, 8, 9, 255, 1 << 32, 1<<32 + 7, greatest} {
		for _, place := range []int{0, 8, 11} {
			wantGroupStepIsDone(t, "no kind", busyGroup(), impl.GroupStep{Kind: kind, Place: place}, false)
		}
	}
}

// A field of which a kind says nothing may be anything.
func TestPromise17FieldsThatAreNotNamed(t *testing.T) {
	for _, n := range []int{least, -1, 0, 3, 5, 9, 12, 60, greatest} {
		for _, s := range []impl.GroupStep{
			{Kind: impl.RepAsk, Place: 3, Replica: 2, Op: 8, K: n},
			{Kind: impl.RepTake, Place: 8, Replica: n, Op: n, K: 14},
			{Kind: impl.RepLose, Place: 8, Replica: n, Op: n, K: 14},
			{Kind: impl.RepTwice, Place: 8, Replica: n, Op: n, K: 14},
			{Kind: impl.RepLearn, Place: 0, Replica: 2, Op: n, K: n},
			{Kind: impl.RepCrash, Place: n, Replica: 3, Op: n, K: n},
			{Kind: impl.RepSave, Place: n, Replica: 4, Op: n, K: n},
		} {
			wantGroupStepIsDone(t, "not named", busyGroup(), s, true)
			bare := map[int]impl.GroupStep{
				impl.RepAsk: askAt(3, 2, 8), impl.RepTake: takeAt(8, 14), impl.RepLose: loseAt(8, 14), impl.RepTwice: twiceAt(8, 14),
				impl.RepLearn: learnAt(0, 2), impl.RepCrash: crash(3), impl.RepSave: save(4),
			}[s.Kind]
			want, _ := impl.StepGroup(busyGroup(), bare)
			got, ok := impl.StepGroup(busyGroup(), s)
			wantGroup(t, fmt.Sprint(s, " and ", bare), got, ok, want)
		}
	}
}

// doneInGroup does steps each of which can be done.
func doneInGroup(t *testing.T, g impl.Group, steps ...impl.GroupStep) impl.Group {
	t.Helper()
	for _, s := range steps {
		if !wantGroupStep(t, "in a group", g, s) {
			t.Fatalf("%v cannot be done in %v", s, g)
		}
		g, _ = impl.StepGroup(g, s)
	}
	return g
}

// Five replicas have three askers: the fourth one asks as the first one does, and takes its round from it.
func TestPromise17ReplicasWithOneAsker(t *testing.T) {
	for replica, asker := range []int{0, 1, 2, 0, 1} {
		g := doneInGroup(t, newGroup(nineOps(), 5), askAt(7, replica, 8))
		p := g.Places[7].Paxos
		if want := (impl.Asker{Round: 1, Ballot: 3 + asker, Own: "8", Asks: true}); !sameAsker(p.Askers[asker], want) {
			t.Errorf("replica %d asks as %v", replica, p.Askers)
		}
		if len(p.Notes) != 5 || p.Notes[4] != prepare(asker, 4, 3+asker) {
			t.Errorf("replica %d writes %v", replica, p.Notes)
		}
		for k, other := range g.Places {
			if k != 7 && !samePaxos(other.Paxos, choosing(5)) {
				t.Errorf("at the place %d is %v", k, other)
			}
		}
	}
	g := doneInGroup(t, newGroup(nineOps(), 5), askAt(0, 0, 1), askAt(0, 3, 2), takeAt(0, 0), takeAt(0, 4), takeAt(0, 4))
	if p := g.Places[0].Paxos; !sameAsker(p.Askers[0], impl.Asker{Round: 2, Ballot: 6, Own: "2", Asks: true}) || len(p.Notes) != 10 {
		t.Errorf("behind another one's asking it is %v", p)
	}
	wantGroupStepIsDone(t, "no round is left", busyGroup(), askAt(11, 3, 0), false)
	wantGroupStepIsDone(t, "another asker", busyGroup(), askAt(11, 4, 0), true)
}

// rowGroup has three replicas and a row of these ops, -1 where nothing is chosen.
func rowGroup(row ...int) impl.Group {
	g := newGroup(nineOps(), 3)
	for place, op := range row {
		if op >= 0 {
			g.Places[place].Paxos = choosing(3, fmt.Sprint(op))
		}
	}
	return g
}

func baseBehindOps(t *testing.T, ops ...int) impl.Base {
	t.Helper()
	var l []impl.Op
	for _, k := range ops {
		l = append(l, nineOps()[k])
	}
	return folded(t, l)
}

func wantReplica(t *testing.T, what string, g impl.Group, replica int, want impl.Replica) {
	t.Helper()
	if !sameReplica(g.Replicas[replica], want) {
		t.Errorf("%s: the replica %d is %v, not %v", what, replica, g.Replicas[replica], want)
	}
}

func TestPromise17WhatIsKnownIsDoneFromTheFrontOn(t *testing.T) {
	g := rowGroup(3, 0, 6, -1, 8, 1)
	wantGroupStepIsDone(t, "nothing is chosen", g, learnAt(3, 1), false)
	g = doneInGroup(t, g, learnAt(1, 1))
	wantReplica(t, "behind a gap", g, 1, impl.Replica{Known: knowing(map[int]string{1: "0"})})
	g = doneInGroup(t, g, learnAt(2, 1), learnAt(4, 1))
	wantReplica(t, "behind a gap", g, 1, impl.Replica{Known: knowing(map[int]string{1: "0", 2: "6", 4: "8"})})
	g = doneInGroup(t, g, learnAt(0, 1))
	known := knowing(map[int]string{0: "3", 1: "0", 2: "6", 4: "8"})
	wantReplica(t, "in the gap", g, 1, impl.Replica{Known: known, Base: baseBehindOps(t, 3, 0, 6)})
	for _, place := range []int{0, 1, 2, 4} {
		g = doneInGroup(t, g, learnAt(place, 1))
		wantReplica(t, "known already", g, 1, impl.Replica{Known: known, Base: baseBehindOps(t, 3, 0, 6)})
	}
	g.Places[3].Paxos = choosing(3, "3")
	g = doneInGroup(t, g, learnAt(3, 1))
	known[3] = "3"
	wantReplica(t, "in the next gap", g, 1, impl.Replica{Known: known, Base: baseBehindOps(t, 3, 0, 6, 3, 8)})
	for _, other := range []int{0, 2} {
		wantReplica(t, "another one", g, other, impl.Replica{Known: noPlaces()})
	}
}

// In whatever order all places are learned, the row is done as soon as it is known, and up to its end.
func TestPromise17LearningInAnyOrder(t *testing.T) {
	d := &dice{state: 172}
	row := []int{3, 0, 6, 8, 8, 1, 4, 5, 7, 2, 0, 1}
	for range 25 {
		g := rowGroup(row...)
		known := noPlaces()
		for _, place := range mixed(d, numbersBelow(12)) {
			g = doneInGroup(t, g, learnAt(place, 2))
			known[place] = fmt.Sprint(row[place])
			front := slices.Index(append(slices.Clone(known), ""), "")
			wantReplica(t, "any order", g, 2, impl.Replica{Known: known, Base: baseBehindOps(t, row[:front]...)})
		}
		if b, ok := impl.BaseOf(g, 2); !ok || b.Applied != 12 {
			t.Errorf("all is known, and the base is %v %v", b, ok)
		}
		wantGroupStepIsDone(t, "all is known", g, learnAt(11, 2), true)
	}
}

func TestPromise17LearningWhatIsChosenFirst(t *testing.T) {
	for what, one := range map[string]struct {
		values []string
		want   string
	}{
		"an op":                      {[]string{"2"}, "2"},
		"the last op":                {[]string{"8"}, "8"},
		"two ops":                    {[]string{"4", "2"}, "4"},
		"an op ahead of a text":      {[]string{"4", "x"}, "4"},
		"a text":                     {[]string{"x"}, ""},
		"a text ahead of an op":      {[]string{"x", "2"}, ""},
		"a digit that is no op's":    {[]string{"9"}, ""},
		"no op's ahead of an op":     {[]string{"9", "8"}, ""},
		"two digits":                 {[]string{"10"}, ""},
		"a nought ahead of a digit":  {[]string{"01"}, ""},
		"the byte ahead of all":      {[]string{"/"}, ""},
		"the byte of an op's number": {[]string{"\x01"}, ""},
	} {
		g := newGroup(nineOps(), 3)
		g.Places[0].Paxos = choosing(3, one.values...)
		wantGroupStepIsDone(t, what, g, learnAt(0, 0), one.want != "")
		wantAnswers(t, what, g)
		if one.want != "" {
			g = doneInGroup(t, g, learnAt(0, 0))
			wantReplica(t, what, g, 0, impl.Replica{Known: knowing(map[int]string{0: one.want}), Base: baseBehindOps(t, int(one.want[0]-'0'))})
		}
	}
	// What was known is what is chosen first then, and what stands behind is done.
	g := rowGroup(-1, 5)
	g.Places[0].Paxos = choosing(3, "3", "0")
	g.Replicas[1].Known[0], g.Replicas[1].Known[1] = "0", "5"
	g = doneInGroup(t, g, learnAt(0, 1))
	wantReplica(t, "known as chosen second", g, 1, impl.Replica{Known: knowing(map[int]string{0: "3", 1: "5"}), Base: baseBehindOps(t, 3, 5)})
}

// A base that stands behind what is known goes on as soon as anything is learned; one beyond the row does nothing.
func TestPromise17LearningFromWhereTheBaseStands(t *testing.T) {
	row := []int{3, 0, 6, 8, 8, 1, 4, 5, 7, 2, 0, 1}
	for applied := range 61 {
		g := rowGroup(row...)
		base := crowdedBase(applied, 3, 3)
		g.Replicas[0] = impl.Replica{Known: knowing(map[int]string{0: "3", 1: "0", 2: "6", 3: "8", 11: "1"}), Base: base, Saved: base}
		wantGroupStepIsDone(t, "any Applied", g, learnAt(4, 0), true)
		wantGroupStepIsDone(t, "any Applied", g, learnAt(9, 0), true)
		wantGroupStepIsDone(t, "any Applied", g, learnAt(11, 0), true)
		got, _ := impl.StepGroup(g, learnAt(4, 0))
		want := applied
		if applied < 5 {
			want = 5
		} else if applied == 11 {
			want = 12
		}
		if b, ok := impl.BaseOf(got, 0); !ok || b.Applied != want {
			t.Errorf("from %d on the base has done %d", applied, b.Applied)
		}
	}
}

func TestPromise17CrashesAndSaves(t *testing.T) {
	g := doneInGroup(t, rowGroup(3, 0, 6, 8), learnAt(1, 2), learnAt(0, 2))
	two := knowing(map[int]string{0: "3", 1: "0"})
	ahead := doneInGroup(t, g, crash(2))
	wantReplica(t, "ahead of any save", ahead, 2, impl.Replica{Known: noPlaces()})
	wantReplica(t, "crashed twice", doneInGroup(t, ahead, crash(2)), 2, impl.Replica{Known: noPlaces()})
	wantReplica(t, "learned again", doneInGroup(t, ahead, learnAt(1, 2), learnAt(0, 2)), 2, impl.Replica{Known: two, Base: baseBehindOps(t, 3, 0)})
	saved := baseBehindOps(t, 3, 0)
	g = doneInGroup(t, g, save(2))
	wantReplica(t, "saved", g, 2, impl.Replica{Known: two, Base: saved, Saved: saved})
	wantReplica(t, "saved twice", doneInGroup(t, g, save(2)), 2, impl.Replica{Known: two, Base: saved, Saved: saved})
	g = doneInGroup(t, g, learnAt(2, 2), learnAt(3, 2))
	four := knowing(map[int]string{0: "3", 1: "0", 2: "6", 3: "8"})
	wantReplica(t, "behind a save", g, 2, impl.Replica{Known: four, Base: baseBehindOps(t, 3, 0, 6, 8), Saved: saved})
	crashed := doneInGroup(t, g, crash(2))
	wantReplica(t, "behind one save", crashed, 2, impl.Replica{Known: noPlaces(), Base: saved, Saved: saved})
	again := doneInGroup(t, crashed, learnAt(3, 2), learnAt(0, 2))
	wantReplica(t, "ahead of what is saved, and behind a gap", again, 2, impl.Replica{Known: knowing(map[int]string{0: "3", 3: "8"}), Base: saved, Saved: saved})
	again = doneInGroup(t, again, learnAt(2, 2))
	wantReplica(t, "in the gap", again, 2, impl.Replica{Known: knowing(map[int]string{0: "3", 2: "6", 3: "8"}), Base: baseBehindOps(t, 3, 0, 6, 8), Saved: saved})
	all := baseBehindOps(t, 3, 0, 6, 8)
	g = doneInGroup(t, g, save(2), crash(2))
	wantReplica(t, "behind two saves", g, 2, impl.Replica{Known: noPlaces(), Base: all, Saved: all})
	for _, other := range []int{0, 1} {
		wantReplica(t, "another one", g, other, impl.Replica{Known: noPlaces()})
	}
}

// Of a vote that is one too many nothing comes, as at a place by itself; the note may still be lost.
func TestPromise17OneVoteTooMany(t *testing.T) {
	for _, votes := range []int{999, 1000} {
		p := noteWith(accept(0, 3, 9, "1"))
		p.Votes = slices.Repeat(p.Votes[:1], votes)
		g := placeWith(10, p)
		last := len(p.Notes) - 1
		wantGroupStepIsDone(t, "so many votes", g, takeAt(10, last), votes < 1000)
		wantGroupStepIsDone(t, "so many votes", g, takeAt(10, 0), true)
		wantGroupStepIsDone(t, "so many votes", g, loseAt(10, last), true)
	}
}

func TestPromise17StepsInABusyGroup(t *testing.T) {
	d := &dice{state: 173}
	done := 0
	for range 1500 {
		g := busyGroup()
		d.disturbGroup(&g)
		if !oracleGoodGroup(g) {
			continue
		}
		s := impl.GroupStep{Kind: d.below(9), Place: d.below(14) - 1, Replica: d.below(7) - 1, Op: d.below(11) - 1, K: d.below(17) - 1}
		if wantGroupStep(t, "busy", g, s) {
			done++
		}
	}
	if done < 200 {
		t.Errorf("only %d are done: that tells little", done)
	}
}
