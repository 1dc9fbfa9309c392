package tests

import (
	"slices"
	"strconv"
	"testing"

	"loop.example/g00274/impl"
)

// member is a replica told without documents: where it has learned since it crashed last, and how much of the row it has done and saved.
type member struct {
	learned map[int]bool
	done    int
	saved   int
}

// rowTale is a group told as one row that all do from its front on; the row has -1 where nothing is chosen yet.
type rowTale struct {
	ops     []impl.Op
	places  []*tale
	row     []int
	members []member
}

func newRowTale(ops []impl.Op, replicas int) *rowTale {
	h := &rowTale{ops: ops, row: slices.Repeat([]int{-1}, 12)}
	for range 12 {
		h.places = append(h.places, taleOf(choosing(replicas)))
	}
	for range replicas {
		h.members = append(h.members, member{learned: map[int]bool{}})
	}
	return h
}

func (h *rowTale) group() impl.Group {
	g := impl.Group{Ops: h.ops}
	for _, place := range h.places {
		g.Places = append(g.Places, impl.Place{Paxos: place.paxos()})
	}
	for _, m := range h.members {
		r := impl.Replica{Known: noPlaces()}
		for place := range m.learned {
			r.Known[place] = strconv.Itoa(h.row[place])
		}
		r.Base, _ = oracleFront(h.ops, h.row, m.done)
		r.Saved, _ = oracleFront(h.ops, h.row, m.saved)
		g.Replicas = append(g.Replicas, r)
	}
	return g
}

// happens does a step, and tells whether it can be done.
func (h *rowTale) happens(s impl.GroupStep) bool {
	if !oracleNamed(impl.Group{Ops: h.ops, Replicas: make([]impl.Replica, len(h.members))}, s) {
		return false
	}
	if step, ok := oraclePaxosStep(s); ok {
		return h.places[s.Place].happens(step)
	}
	m := &h.members[s.Replica]
	switch s.Kind {
	case impl.RepSave:
		m.saved = m.done
	case impl.RepCrash:
		m.learned, m.done = map[int]bool{}, m.saved
	case impl.RepLearn:
		if h.row[s.Place] < 0 {
			return false
		}
		m.learned[s.Place] = true
		for m.learned[m.done] {
			m.done++
		}
	}
	return true
}

// wantOneRow asks the promise itself: what was chosen stays, one value at most is, and all that is known is of the row.
func (h *rowTale) wantOneRow(t *testing.T, g impl.Group) {
	t.Helper()
	for place := range h.places {
		chosen := oracleChosen(g.Places[place].Paxos)
		if len(chosen) > 1 {
			t.Fatalf("%q are chosen at the place %d of %v", chosen, place, g)
		}
		now := oracleFirst(g.Places[place].Paxos, len(h.ops))
		if h.row[place] >= 0 && now != h.row[place] {
			t.Fatalf("%d was chosen at the place %d, and is not in %v", h.row[place], place, g)
		}
		h.row[place] = now
		for k, r := range g.Replicas {
			if r.Known[place] != "" && (len(chosen) == 0 || r.Known[place] != chosen[0]) {
				t.Fatalf("the replica %d knows %q at the place %d, where %q is chosen", k, r.Known[place], place, chosen)
			}
		}
	}
	for k, r := range g.Replicas {
		if r.Base.Applied < r.Saved.Applied {
			t.Fatalf("the replica %d has done less than it has saved: %v", k, r)
		}
	}
}

// groupPlay draws steps at so many places; one of so many crashes, is one more asking, and loses a note.
type groupPlay struct {
	ops      []impl.Op
	replicas int
	places   int
	crashes  int
	calm     int
	losses   int
	steps    []impl.GroupStep
	done     []bool
}

func (d *dice) groupPlay() *groupPlay {
	return &groupPlay{
		ops: d.ops(1 + d.below(9)), replicas: 1 + d.below(5), places: 1 + d.below(5),
		crashes: []int{8, 30, 200}[d.below(3)], calm: []int{10, 20, 40}[d.below(3)], losses: []int{8, 25}[d.below(2)],
	}
}

// groupStep draws mostly such steps as can be done, and as lead on.
func (d *dice) groupStep(p *groupPlay, now impl.Group) impl.GroupStep {
	place, replica, op := d.below(p.places), d.below(p.replicas), d.below(len(p.ops))
	if first := slices.IndexFunc(now.Places, func(x impl.Place) bool { return len(oracleChosen(x.Paxos)) == 0 }); first < p.places && d.below(2) == 0 {
		place = first
	}
	notes := len(now.Places[place].Paxos.Notes)
	isChosen := len(oracleChosen(now.Places[place].Paxos)) > 0
	if d.below(p.crashes) == 0 {
		return crash(replica)
	}
	// One that asks behind the first votes may hear of none of them.
	isAsked := slices.ContainsFunc(now.Places[place].Paxos.Askers, func(a impl.Asker) bool { return a.Asks })
	hasVotes := between(len(now.Places[place].Paxos.Votes), 1, 2)
	if !isChosen && (notes == 0 || hasVotes && !isAsked && d.below(2) == 0) || d.below(p.calm) == 0 {
		return askAt(place, replica, op)
	}
	if isChosen && d.below(6) > 0 {
		return []impl.GroupStep{learnAt(place, replica), learnAt(place, replica), save(replica)}[d.below(3)]
	}
	switch d.below(24) {
	case 0:
		return []impl.GroupStep{{}, askAt(place, replica, len(p.ops)), askAt(12, replica, op), learnAt(11, replica), crash(p.replicas), save(-1), takeAt(place, notes), {Kind: 8}}[d.below(8)]
	case 1, 2:
		return twiceAt(place, d.below(notes+1))
	}
	if d.below(p.losses) == 0 {
		return loseAt(place, d.below(notes+1))
	}
	return takeAt(place, max(0, d.below(notes+1)-d.below(2)))
}

// playedGroup draws so many steps, and holds what each of them makes against the tale.
func (d *dice) playedGroup(t *testing.T, p *groupPlay, many int) (impl.Group, *rowTale) {
	t.Helper()
	h := newRowTale(p.ops, p.replicas)
	now := h.group()
	for range many {
		s := d.groupStep(p, now)
		p.steps = append(p.steps, s)
		can := h.happens(s)
		p.done = append(p.done, can)
		next, ok := impl.StepGroup(now, s)
		if !can {
			wantZeroGroup(t, "a play: StepGroup", next, ok)
			continue
		}
		if want := h.group(); !ok || !sameGroup(next, want) {
			t.Fatalf("StepGroup(%v, %v) is\n%v %v, not\n%v", now, s, next, ok, want)
		}
		now = next
		h.wantOneRow(t, now)
	}
	return now, h
}

// playCount is what came about in plays, so that they tell something: places with votes for others, too, among them.
type playCount struct {
	chosen int
	torn   int
	gaps   int
	ahead  int
	again  int
	longer int
}

func (c *playCount) add(g impl.Group, h *rowTale) {
	for place, op := range h.row {
		if op < 0 {
			continue
		}
		c.chosen++
		if slices.ContainsFunc(g.Places[place].Paxos.Votes, func(v impl.Vote) bool { return v.Value != strconv.Itoa(op) }) {
			c.torn++
		}
	}
	for _, m := range h.members {
		c.longer += asNumber(m.done > 2)
		c.ahead += asNumber(m.saved > 0 && m.done > m.saved)
		c.again += asNumber(m.saved > 0 && len(m.learned) > 0 && m.done > 0 && !m.learned[0])
		for place := range m.learned {
			c.gaps += asNumber(place > m.done)
		}
	}
}

func TestPromise17AllDoTheSameRow(t *testing.T) {
	d := &dice{state: 174}
	var count playCount
	for range 300 {
		p := d.groupPlay()
		g, h := d.playedGroup(t, p, []int{160, 160, d.below(161)}[d.below(3)])
		wantPlayedGroup(t, "drawn", p.ops, p.replicas, p.steps, g, p.done)
		wantAnswers(t, "drawn", g)
		wantAgreeing(t, "drawn", g, true)
		if row, ok := impl.RowOf(g); !ok || !slices.Equal(row, h.row) {
			t.Errorf("RowOf(%v) is %v %v, not %v", g, row, ok, h.row)
		}
		count.add(g, h)
	}
	if count.chosen < 400 || count.torn < 8 || count.gaps < 60 || count.ahead < 30 || count.again < 10 || count.longer < 60 {
		t.Errorf("%+v: that tells little", count)
	}
}

// What is played is what is done step by step, up to each of them.
func TestPromise17PlayedGroupsAreStepsOneByOne(t *testing.T) {
	d := &dice{state: 175}
	for range 3 {
		p := d.groupPlay()
		d.playedGroup(t, p, 160)
		now, _ := impl.NewGroup(p.ops, p.replicas)
		for k, s := range p.steps {
			if next, ok := impl.StepGroup(now, s); ok {
				now = next
			}
			wantPlayedGroup(t, "up to a step", p.ops, p.replicas, p.steps[:k+1], now, p.done[:k+1])
			wantAgreeing(t, "up to a step", now, true)
		}
	}
}

// All that one replica can learn, save and lose of a row of three in six steps.
func TestPromise17AllThatOneReplicaCanDo(t *testing.T) {
	steps := []impl.GroupStep{learnAt(0, 1), learnAt(1, 1), learnAt(2, 1), save(1), crash(1)}
	ops := nineOps()
	many := 0
	var goOn func(g impl.Group, told []impl.GroupStep)
	goOn = func(g impl.Group, told []impl.GroupStep) {
		h := newRowTale(ops, 3)
		h.row[0], h.row[1], h.row[2] = 3, 0, 6
		for _, s := range told {
			h.happens(s)
		}
		if want := h.group().Replicas[1]; !sameReplica(g.Replicas[1], want) {
			t.Fatalf("behind %v the replica is %v, not %v", told, g.Replicas[1], want)
		}
		many++
		for _, s := range steps {
			if next, ok := impl.StepGroup(g, s); !ok {
				t.Fatalf("%v cannot be done behind %v", s, told)
			} else if len(told) < 5 {
				goOn(next, append(slices.Clone(told), s))
			}
		}
	}
	goOn(rowGroup(3, 0, 6), nil)
	if many != 3906 {
		t.Errorf("%d rows of steps", many)
	}
}
