package tests

import (
	"slices"
	"strconv"
	"testing"

	"loop.example/g00274/impl"
)

func askAt(place int, replica int, op int) impl.GroupStep {
	return impl.GroupStep{Kind: impl.RepAsk, Place: place, Replica: replica, Op: op}
}

func takeAt(place int, k int) impl.GroupStep {
	return impl.GroupStep{Kind: impl.RepTake, Place: place, K: k}
}

func loseAt(place int, k int) impl.GroupStep {
	return impl.GroupStep{Kind: impl.RepLose, Place: place, K: k}
}

func twiceAt(place int, k int) impl.GroupStep {
	return impl.GroupStep{Kind: impl.RepTwice, Place: place, K: k}
}

func learnAt(place int, replica int) impl.GroupStep {
	return impl.GroupStep{Kind: impl.RepLearn, Place: place, Replica: replica}
}

func crash(replica int) impl.GroupStep {
	return impl.GroupStep{Kind: impl.RepCrash, Replica: replica}
}

func save(replica int) impl.GroupStep {
	return impl.GroupStep{Kind: impl.RepSave, Replica: replica}
}

func noPlaces() []string {
	return make([]string, 12)
}

// knowing is what one knows that knows these values at these places.
func knowing(at map[int]string) []string {
	known := noPlaces()
	for place, value := range at {
		known[place] = value
	}
	return known
}

// clonedGroup shares no list with the group but those within bases and ops, which the oracle does not write into.
func clonedGroup(g impl.Group) impl.Group {
	made := impl.Group{Ops: slices.Clone(g.Ops), Places: slices.Clone(g.Places), Replicas: slices.Clone(g.Replicas)}
	for k, r := range made.Replicas {
		made.Replicas[k].Known = slices.Clone(r.Known)
	}
	return made
}

// oracleOpIn answers the number of the op whose digit a text is among so many, or -1.
func oracleOpIn(text string, ops int) int {
	if len(text) == 1 && text[0] >= '0' && int(text[0]) < '0'+ops {
		return int(text[0]) - '0'
	}
	return -1
}

func oracleFirst(p impl.Paxos, ops int) int {
	chosen := oracleChosen(p)
	if len(chosen) == 0 {
		return -1
	}
	return oracleOpIn(chosen[0], ops)
}

func oracleRow(g impl.Group) []int {
	var row []int
	for _, place := range g.Places {
		row = append(row, oracleFirst(place.Paxos, len(g.Ops)))
	}
	return row
}

// oracleFront is what so many ops of a row make from its front on, and whether there are so many without a gap.
func oracleFront(ops []impl.Op, row []int, many int) (impl.Base, bool) {
	var l []impl.Op
	for k := range many {
		if k >= len(row) || row[k] < 0 {
			return impl.Base{}, false
		}
		l = append(l, ops[row[k]])
	}
	return oracleReplay(impl.Base{}, 0, l)
}

func oracleAgrees(g impl.Group) bool {
	return !slices.ContainsFunc(g.Replicas, func(r impl.Replica) bool {
		want, ok := oracleFront(g.Ops, oracleRow(g), r.Base.Applied)
		return !ok || !sameBase(r.Base, want)
	})
}

func oracleGoodReplica(g impl.Group, r impl.Replica) bool {
	if len(r.Known) != 12 || !oracleGoodBase(r.Base) || !oracleGoodBase(r.Saved) {
		return false
	}
	for k, value := range r.Known {
		isThere := slices.Contains(oracleChosen(g.Places[k].Paxos), value) && oracleOpIn(value, len(g.Ops)) >= 0
		if value != "" && !isThere {
			return false
		}
	}
	return true
}

// oracleGoodGroup asks rule by rule.
func oracleGoodGroup(g impl.Group) bool {
	if !between(len(g.Ops), 1, 9) || len(g.Places) != 12 || !between(len(g.Replicas), 1, 5) {
		return false
	}
	for _, o := range g.Ops {
		if !oracleGoodOp(o) {
			return false
		}
	}
	for _, place := range g.Places {
		if !oracleGoodPaxos(place.Paxos) || len(place.Paxos.Voters) != len(g.Replicas) || len(place.Paxos.Askers) != 3 {
			return false
		}
	}
	return !slices.ContainsFunc(g.Replicas, func(r impl.Replica) bool { return !oracleGoodReplica(g, r) })
}

// oracleNamed says whether all that the step's kind names is there.
func oracleNamed(g impl.Group, s impl.GroupStep) bool {
	isPlace := between(s.Place, 0, 11)
	isReplica := between(s.Replica, 0, len(g.Replicas)-1)
	switch s.Kind {
	case impl.RepAsk:
		return isPlace && isReplica && between(s.Op, 0, len(g.Ops)-1)
	case impl.RepTake, impl.RepLose, impl.RepTwice:
		return isPlace
	case impl.RepLearn:
		return isPlace && isReplica
	case impl.RepCrash, impl.RepSave:
		return isReplica
	}
	return false
}

// oraclePaxosStep is what a step does among voters and askers, where it does anything there.
func oraclePaxosStep(s impl.GroupStep) (impl.PaxosStep, bool) {
	switch s.Kind {
	case impl.RepAsk:
		return askStep([]int{0, 1, 2, 0, 1}[s.Replica], strconv.Itoa(s.Op)), true
	case impl.RepTake:
		return takeStep(s.K), true
	case impl.RepLose:
		return loseStep(s.K), true
	case impl.RepTwice:
		return twiceStep(s.K), true
	}
	return impl.PaxosStep{}, false
}

// oracleGroupStep takes a good group.
func oracleGroupStep(g impl.Group, s impl.GroupStep) (impl.Group, bool) {
	if !oracleNamed(g, s) {
		return impl.Group{}, false
	}
	g = clonedGroup(g)
	if step, ok := oraclePaxosStep(s); ok {
		made, done := oracleStep(g.Places[s.Place].Paxos, step)
		if !done {
			return impl.Group{}, false
		}
		g.Places[s.Place].Paxos = made
		return g, true
	}
	r := &g.Replicas[s.Replica]
	switch s.Kind {
	case impl.RepSave:
		r.Saved = r.Base
	case impl.RepCrash:
		*r = impl.Replica{Known: noPlaces(), Base: r.Saved, Saved: r.Saved}
	case impl.RepLearn:
		op := oracleFirst(g.Places[s.Place].Paxos, len(g.Ops))
		if op < 0 {
			return impl.Group{}, false
		}
		r.Known[s.Place] = strconv.Itoa(op)
		r.Base = oracleCaughtUp(g.Ops, *r)
	}
	return g, true
}

// oracleCaughtUp does all that is known without a gap at once.
func oracleCaughtUp(ops []impl.Op, r impl.Replica) impl.Base {
	var l []impl.Op
	for place := r.Base.Applied; place < 12 && r.Known[place] != ""; place++ {
		l = append(l, ops[oracleOpIn(r.Known[place], len(ops))])
	}
	made, _ := oracleReplay(r.Base, r.Base.Applied, l)
	return made
}

func samePlace(a impl.Place, b impl.Place) bool {
	return samePaxos(a.Paxos, b.Paxos)
}

func sameReplica(a impl.Replica, b impl.Replica) bool {
	return slices.Equal(a.Known, b.Known) && sameBase(a.Base, b.Base) && sameBase(a.Saved, b.Saved)
}

func sameGroup(a impl.Group, b impl.Group) bool {
	return slices.EqualFunc(a.Ops, b.Ops, sameOp) && slices.EqualFunc(a.Places, b.Places, samePlace) && slices.EqualFunc(a.Replicas, b.Replicas, sameReplica)
}

func wantGroup(t *testing.T, what string, got impl.Group, ok bool, want impl.Group) {
	t.Helper()
	if !ok || !sameGroup(got, want) {
		t.Errorf("%s is\n%v %v, not\n%v", what, got, ok, want)
	}
	if !impl.GoodGroup(got) {
		t.Errorf("%s is not good: %v", what, got)
	}
}

func wantZeroGroup(t *testing.T, what string, got impl.Group, ok bool) {
	t.Helper()
	if ok || !sameGroup(got, impl.Group{}) {
		t.Errorf("%s is %v %v, not zero and false", what, got, ok)
	}
}

// wantGroupStep asks for a step of a good group what the oracle tells, and whether it can be done.
func wantGroupStep(t *testing.T, what string, g impl.Group, s impl.GroupStep) bool {
	t.Helper()
	want, done := oracleGroupStep(g, s)
	got, ok := impl.StepGroup(g, s)
	if done {
		wantGroup(t, what+": StepGroup", got, ok, want)
	} else {
		wantZeroGroup(t, what+": StepGroup", got, ok)
	}
	return done
}

func wantGroupStepIsDone(t *testing.T, what string, g impl.Group, s impl.GroupStep, want bool) {
	t.Helper()
	if done := wantGroupStep(t, what, g, s); done != want {
		t.Errorf("%s: that %v is done is told %v", what, s, done)
	}
}

// wantAnswers asks a good group for its row, its bases, and whether these agree.
func wantAnswers(t *testing.T, what string, g impl.Group) {
	t.Helper()
	if row, ok := impl.RowOf(g); !ok || !slices.Equal(row, oracleRow(g)) {
		t.Errorf("%s: RowOf(%v) is %v %v, not %v", what, g, row, ok, oracleRow(g))
	}
	for k, r := range g.Replicas {
		if b, ok := impl.BaseOf(g, k); !ok || !sameBase(b, r.Base) {
			t.Errorf("%s: BaseOf(%v, %d) is %v %v", what, g, k, b, ok)
		}
	}
	for _, k := range []int{-1, len(g.Replicas)} {
		b, ok := impl.BaseOf(g, k)
		wantZeroBase(t, what+": BaseOf", b, ok)
	}
	wantAgreeing(t, what, g, oracleAgrees(g))
}

func wantAgreeing(t *testing.T, what string, g impl.Group, want bool) {
	t.Helper()
	if agree, ok := impl.AgreeIn(g); agree != want || !ok {
		t.Errorf("%s: AgreeIn(%v) is %v %v, not %v true", what, g, agree, ok, want)
	}
}

// someGroupSteps are of each kind, each of them such as can often be done.
func someGroupSteps() []impl.GroupStep {
	return []impl.GroupStep{askAt(0, 0, 0), takeAt(8, 0), loseAt(8, 1), twiceAt(8, 2), learnAt(0, 0), learnAt(1, 0), save(0), crash(0), {}}
}

// wantNotGoodGroup asks each function that takes a group for its answer where it is not good.
func wantNotGoodGroup(t *testing.T, what string, g impl.Group) {
	t.Helper()
	if impl.GoodGroup(g) {
		t.Errorf("%s: it is good", what)
	}
	for _, s := range someGroupSteps() {
		got, ok := impl.StepGroup(g, s)
		wantZeroGroup(t, what+": StepGroup", got, ok)
	}
	if row, ok := impl.RowOf(g); len(row) != 0 || ok {
		t.Errorf("%s: RowOf is %v %v", what, row, ok)
	}
	for _, k := range []int{-1, 0, 4, 5} {
		b, ok := impl.BaseOf(g, k)
		wantZeroBase(t, what+": BaseOf", b, ok)
	}
	if agree, ok := impl.AgreeIn(g); agree || ok {
		t.Errorf("%s: AgreeIn is %v %v", what, agree, ok)
	}
}

// wantAsGroupRulesSay tells whether the rules say that a group is good.
func wantAsGroupRulesSay(t *testing.T, what string, g impl.Group) bool {
	t.Helper()
	good := oracleGoodGroup(g)
	if !good {
		wantNotGoodGroup(t, what, g)
	} else if !impl.GoodGroup(g) {
		t.Errorf("%s: it is not good: %v", what, g)
	} else {
		wantAnswers(t, what, g)
	}
	return good
}
