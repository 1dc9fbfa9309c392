package tests

import (
	"slices"
	"strconv"
	"testing"

	"loop.example/g00274/impl"
)

func wantPlayedGroup(t *testing.T, what string, ops []impl.Op, replicas int, l []impl.GroupStep, want impl.Group, wantDone []bool) {
	t.Helper()
	g, done, ok := impl.PlayGroup(ops, replicas, l)
	wantGroup(t, what+": PlayGroup", g, ok, want)
	if !slices.Equal(done, wantDone) {
		t.Errorf("%s: PlayGroup of %v does %v, not %v", what, l, done, wantDone)
	}
}

func wantNotPlayedGroup(t *testing.T, what string, ops []impl.Op, replicas int, l []impl.GroupStep) {
	t.Helper()
	g, done, ok := impl.PlayGroup(ops, replicas, l)
	wantZeroGroup(t, what+": PlayGroup", g, ok)
	if len(done) != 0 {
		t.Errorf("%s: PlayGroup does %v", what, done)
	}
}

// choosingSteps have one of three replicas ask for an op at a place, and all notes taken in order.
func choosingSteps(place int, replica int, op int) []impl.GroupStep {
	return append([]impl.GroupStep{askAt(place, replica, op)}, slices.Repeat([]impl.GroupStep{takeAt(place, 0)}, 9)...)
}

func played(t *testing.T, ops []impl.Op, replicas int, l []impl.GroupStep) impl.Group {
	t.Helper()
	g, _, ok := impl.PlayGroup(ops, replicas, l)
	if !ok {
		t.Fatalf("PlayGroup of %v is not done", l)
	}
	return g
}

func TestPromise17PlayGroup(t *testing.T) {
	ops := nineOps()
	steps := slices.Concat(choosingSteps(0, 2, 6), choosingSteps(1, 0, 3), []impl.GroupStep{learnAt(1, 0), learnAt(0, 1), save(1), learnAt(1, 1), learnAt(1, 2)})
	want := newGroup(ops, 3)
	for place, value := range []string{"6", "3"} {
		asker := 2 - 2*place
		ballot := 3 + asker
		p := &want.Places[place].Paxos
		p.Askers[asker].Round = 1
		for k := range p.Voters {
			p.Voters[k] = impl.Voter{Promised: ballot, Ballot: ballot, Value: value}
			p.Votes = append(p.Votes, vote(k, ballot, value))
		}
	}
	want.Replicas[0].Known[1] = "3"
	want.Replicas[2].Known[1] = "3"
	want.Replicas[1] = impl.Replica{Known: knowing(map[int]string{0: "6", 1: "3"}), Base: folded(t, []impl.Op{ops[6], ops[3]}), Saved: folded(t, ops[6:7])}
	wantPlayedGroup(t, "two places", ops, 3, steps, want, slices.Repeat([]bool{true}, len(steps)))
	wantAnswers(t, "two places", want)
	if row, ok := impl.RowOf(want); !ok || !slices.Equal(row, []int{6, 3, -1, -1, -1, -1, -1, -1, -1, -1, -1, -1}) {
		t.Errorf("RowOf is %v %v", row, ok)
	}
	wantAgreeing(t, "two places", want, true)
	// What cannot be done changes nothing, and what stands behind it is done.
	wrong := []impl.GroupStep{{}, askAt(12, 0, 0), askAt(0, 3, 0), askAt(0, 0, 9), takeAt(2, 0), takeAt(0, 60), learnAt(2, 0), learnAt(0, 3), crash(3), crash(-1), save(3), {Kind: 8}}
	var mixedSteps []impl.GroupStep
	var wantDone []bool
	for k, s := range steps {
		mixedSteps = append(mixedSteps, wrong[k%12], s, wrong[(5*k+1)%12])
		wantDone = append(wantDone, false, true, false)
	}
	wantPlayedGroup(t, "between what cannot be done", ops, 3, mixedSteps, want, wantDone)
}

func TestPromise17PlayGroupOfSoManySteps(t *testing.T) {
	ops := nineOps()
	fresh := newGroup(ops, 2)
	wantPlayedGroup(t, "no steps", ops, 2, nil, fresh, nil)
	wantPlayedGroup(t, "no steps", ops, 2, []impl.GroupStep{}, fresh, nil)
	wantPlayedGroup(t, "160 of no kind", ops, 2, make([]impl.GroupStep, 160), fresh, make([]bool, 160))
	wantNotPlayedGroup(t, "161 of no kind", ops, 2, make([]impl.GroupStep, 161))
	wantPlayedGroup(t, "160 saves", ops, 2, slices.Repeat([]impl.GroupStep{save(1)}, 160), fresh, slices.Repeat([]bool{true}, 160))
	wantNotPlayedGroup(t, "161 saves", ops, 2, slices.Repeat([]impl.GroupStep{save(1)}, 161))
	wantNotPlayedGroup(t, "a million", ops, 2, make([]impl.GroupStep, 1000000))
	g, done, ok := impl.PlayGroup(ops, 2, slices.Repeat([]impl.GroupStep{askAt(11, 1, 8)}, 160))
	if p := g.Places[11].Paxos; !ok || slices.Contains(done, false) || len(done) != 160 || p.Askers[1].Round != 160 || len(p.Notes) != 60 {
		t.Errorf("160 asked is %v %v %v", p, done, ok)
	}
}

func TestPromise17OneReplicaAlone(t *testing.T) {
	var steps []impl.GroupStep
	row := []int{8, 8, 3, 0, 0, 6, 1, 2, 4, 5, 7, 0}
	for place, op := range row {
		steps = append(steps, askAt(place, 0, op), takeAt(place, 0), takeAt(place, 0), takeAt(place, 0), learnAt(place, 0))
	}
	g := played(t, nineOps(), 1, steps)
	wantAnswers(t, "alone", g)
	if got, ok := impl.RowOf(g); !ok || !slices.Equal(got, row) {
		t.Errorf("RowOf is %v %v", got, ok)
	}
	if b, ok := impl.BaseOf(g, 0); !ok || !sameBase(b, baseBehindOps(t, row...)) {
		t.Errorf("BaseOf is %v %v", b, ok)
	}
	wantAgreeing(t, "alone", g, true)
}

func TestPromise17RowOf(t *testing.T) {
	for what, one := range map[string]struct {
		values []string
		want   int
	}{
		"nothing": {nil, -1}, "the first op": {[]string{"0"}, 0}, "the last op": {[]string{"8"}, 8}, "no op's digit": {[]string{"9"}, -1},
		"another text": {[]string{"x"}, -1}, "two digits": {[]string{"00"}, -1}, "an op ahead of another": {[]string{"5", "2"}, 5},
		"an op ahead of a text": {[]string{"5", "x"}, 5}, "a text ahead of an op": {[]string{"x", "5"}, -1},
	} {
		for place := range 12 {
			g := newGroup(nineOps(), 4)
			g.Places[place].Paxos = choosing(4, one.values...)
			want := slices.Repeat([]int{-1}, 12)
			want[place] = one.want
			if row, ok := impl.RowOf(g); !ok || !slices.Equal(row, want) {
				t.Errorf("%s: RowOf is %v %v, not %v", what, row, ok, want)
			}
		}
	}
	// Votes of too few, and of one ballot each, choose nothing.
	few := choosing(4)
	few.Votes = []impl.Vote{vote(0, 3, "1"), vote(1, 3, "1"), vote(2, 4, "1"), vote(1, 3, "1")}
	g := newGroup(nineOps(), 4)
	g.Places[0].Paxos = few
	if row, ok := impl.RowOf(g); !ok || !slices.Equal(row, slices.Repeat([]int{-1}, 12)) {
		t.Errorf("RowOf is %v %v", row, ok)
	}
}

func TestPromise17BaseOf(t *testing.T) {
	g := busyGroup()
	for k, want := range []impl.Base{baseBehindOps(t, 3, 0), {}, {}, baseBehindOps(t, 3), busyBase()} {
		if b, ok := impl.BaseOf(g, k); !ok || !sameBase(b, want) {
			t.Errorf("BaseOf(%d) is %v %v, not %v", k, b, ok, want)
		}
	}
	for _, k := range []int{least, -1, 5, 6, 1 << 32, greatest} {
		b, ok := impl.BaseOf(g, k)
		wantZeroBase(t, "no replica: BaseOf", b, ok)
	}
	for replicas := 1; replicas <= 5; replicas++ {
		for k := -1; k <= 5; k++ {
			if b, ok := impl.BaseOf(newGroup(nineOps(), replicas), k); ok != between(k, 0, replicas-1) || !sameBase(b, impl.Base{}) {
				t.Errorf("of %d replicas BaseOf(%d) is %v %v", replicas, k, b, ok)
			}
		}
	}
}

// agreeing has a row of three ops, a gap and one more, and replicas that have done none, some and all up to the gap.
func agreeing(t *testing.T) impl.Group {
	g := rowGroup(3, 0, 1, -1, 6)
	g.Replicas[1].Base = baseBehindOps(t, 3, 0, 1)
	g.Replicas[2].Base = baseBehindOps(t, 3, 0)
	return g
}

func TestPromise17AgreeIn(t *testing.T) {
	wantAgreeing(t, "all new", newGroup(nineOps(), 3), true)
	wantAgreeing(t, "some, all and none", agreeing(t), true)
	for what, change := range map[string]func(b *impl.Base){
		"one more than the row has":   func(b *impl.Base) { *b = baseBehindOps(t, 3, 0, 1, 6) },
		"beyond the gap":              func(b *impl.Base) { *b = baseBehindOps(t, 3, 0, 1, 1, 6) },
		"12 done":                     func(b *impl.Base) { b.Applied = 12 },
		"13 done":                     func(b *impl.Base) { b.Applied = 13 },
		"60 done":                     func(b *impl.Base) { b.Applied = 60 },
		"one less, all else the same": func(b *impl.Base) { b.Applied = 2 },
		"none done, all else there":   func(b *impl.Base) { b.Applied = 0 },
		"another op":                  func(b *impl.Base) { *b = baseBehindOps(t, 3, 0, 8) },
		"another order":               func(b *impl.Base) { *b = baseBehindOps(t, 0, 3, 1) },
		"another document":            func(b *impl.Base) { b.Docs[0].Doc = numberTree(51).value() },
		"another id":                  func(b *impl.Base) { b.Docs[0].Id = 4 },
		"a document more":             func(b *impl.Base) { b.Docs = append(b.Docs, impl.Stored{Id: 9, Doc: numberTree(1).value()}) },
		"a document less":             func(b *impl.Base) { b.Docs = b.Docs[:1] },
		"no documents":                func(b *impl.Base) { b.Docs = nil },
		"another No":                  func(b *impl.Base) { b.Sessions[0].No = 3 },
		"not Fine":                    func(b *impl.Base) { b.Sessions[1].Fine = false },
		"another session":             func(b *impl.Base) { b.Sessions[1].Id = 3 },
		"a session more":              func(b *impl.Base) { b.Sessions = append(b.Sessions, impl.Session{Id: 9, No: 1}) },
		"a session less":              func(b *impl.Base) { b.Sessions = b.Sessions[:1] },
	} {
		for replica := range 3 {
			g := agreeing(t)
			base := baseBehindOps(t, 3, 0, 1)
			change(&base)
			g.Replicas[replica].Base = base
			if sameBase(base, baseBehindOps(t, 3, 0, 1)) || !impl.GoodGroup(g) {
				t.Errorf("%s: nothing is changed, or it is not good", what)
			}
			wantAgreeing(t, what, g, false)
			wantAnswers(t, what, g)
		}
	}
}

// What is Saved and Known does not count, nor does what was chosen second.
func TestPromise17AgreeInAsksBasesAndTheRowAlone(t *testing.T) {
	g := agreeing(t)
	g.Replicas[0].Saved = busyBase()
	g.Replicas[0].Known = knowing(map[int]string{4: "6"})
	wantAgreeing(t, "Saved and Known", g, true)
	g.Places[1].Paxos = choosing(3, "0", "8")
	wantAgreeing(t, "first as done", g, true)
	g.Places[1].Paxos = choosing(3, "8", "0")
	wantAgreeing(t, "second as done", g, false)
	g = agreeing(t)
	g.Places[0].Paxos = choosing(3, "x")
	wantAgreeing(t, "no op", g, false)
	for _, k := range []int{1, 2} {
		g.Replicas[k].Base = impl.Base{}
	}
	wantAgreeing(t, "no op, nothing done", g, true)
	alone := newGroup(nineOps(), 1)
	alone.Places[0].Paxos = choosing(1, "3")
	alone.Replicas[0].Base = baseBehindOps(t, 3)
	wantAgreeing(t, "one alone", alone, true)
	alone.Replicas[0].Base = baseBehindOps(t, 0)
	wantAgreeing(t, "one alone that did another op", alone, false)
}

// The whole row is done: 12 ops, no more.
func TestPromise17AgreeInOfAWholeRow(t *testing.T) {
	row := []int{3, 0, 6, 8, 8, 1, 4, 5, 7, 2, 0, 1}
	for many := range 14 {
		g := rowGroup(row...)
		g.Replicas[2].Base = baseBehindOps(t, append(slices.Clone(row), 3)[:many]...)
		wantAgreeing(t, strconv.Itoa(many)+" done", g, many < 13)
	}
}
