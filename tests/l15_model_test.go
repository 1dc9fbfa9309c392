package tests

import (
	"slices"
	"testing"

	"loop.example/g00274/impl"
)

func prepare(asker int, voter int, ballot int) impl.Note {
	return impl.Note{Kind: impl.NotePrepare, Asker: asker, Voter: voter, Ballot: ballot}
}

func promise(asker int, voter int, ballot int, had int, value string) impl.Note {
	return impl.Note{Kind: impl.NotePromise, Asker: asker, Voter: voter, Ballot: ballot, Had: had, Value: value}
}

func accept(asker int, voter int, ballot int, value string) impl.Note {
	return impl.Note{Kind: impl.NoteAccept, Asker: asker, Voter: voter, Ballot: ballot, Value: value}
}

func askStep(asker int, value string) impl.PaxosStep {
	return impl.PaxosStep{Kind: impl.PaxAsk, Asker: asker, Value: value}
}

func takeStep(k int) impl.PaxosStep {
	return impl.PaxosStep{Kind: impl.PaxTake, K: k}
}

func loseStep(k int) impl.PaxosStep {
	return impl.PaxosStep{Kind: impl.PaxLose, K: k}
}

func twiceStep(k int) impl.PaxosStep {
	return impl.PaxosStep{Kind: impl.PaxTwice, K: k}
}

func forgetStep(asker int) impl.PaxosStep {
	return impl.PaxosStep{Kind: impl.PaxForget, Asker: asker}
}

// voterTale is all that a voter answered and voted, in order.
type voterTale struct {
	answered []int
	votes    []impl.Vote
}

// askerTale is what an asker asked last, and the promises that it was told; first is what it Had ahead of these.
type askerTale struct {
	rounds int
	asks   bool
	ballot int
	own    string
	first  impl.Note
	told   []impl.Note
}

// tale is what happened among voters and askers, told without Promised, Heard and Had: these are found in what happened.
type tale struct {
	voters []voterTale
	askers []askerTale
	notes  []impl.Note
	votes  []impl.Vote
}

// taleOf takes a good paxos for what happened so far.
func taleOf(p impl.Paxos) *tale {
	h := &tale{notes: slices.Clone(p.Notes), votes: slices.Clone(p.Votes)}
	for k, v := range p.Voters {
		made := voterTale{answered: []int{v.Promised}}
		if v.Ballot > 0 {
			made.votes = []impl.Vote{{Voter: k, Ballot: v.Ballot, Value: v.Value}}
		}
		h.voters = append(h.voters, made)
	}
	for _, a := range p.Askers {
		made := askerTale{rounds: a.Round, asks: a.Asks, ballot: a.Ballot, own: a.Own, first: impl.Note{Had: a.Had, Value: a.Value}}
		for _, voter := range a.Heard {
			made.told = append(made.told, impl.Note{Voter: voter})
		}
		h.askers = append(h.askers, made)
	}
	return h
}

func (v voterTale) paxos() impl.Voter {
	made := impl.Voter{Promised: slices.Max(append([]int{0}, v.answered...))}
	if len(v.votes) > 0 {
		last := v.votes[len(v.votes)-1]
		made.Ballot, made.Value = last.Ballot, last.Value
	}
	return made
}

func (a askerTale) best() impl.Note {
	all := append([]impl.Note{a.first}, a.told...)
	return slices.MaxFunc(all, func(x impl.Note, y impl.Note) int { return x.Had - y.Had })
}

func (a askerTale) wants() string {
	if best := a.best(); best.Had != 0 {
		return best.Value
	}
	return a.own
}

func (a askerTale) paxos() impl.Asker {
	if !a.asks {
		return impl.Asker{Round: a.rounds}
	}
	best := a.best()
	made := impl.Asker{Round: a.rounds, Asks: true, Ballot: a.ballot, Own: a.own, Had: best.Had, Value: best.Value}
	for voter := range 5 {
		if slices.ContainsFunc(a.told, func(n impl.Note) bool { return n.Voter == voter }) {
			made.Heard = append(made.Heard, voter)
		}
	}
	return made
}

func (h *tale) paxos() impl.Paxos {
	made := impl.Paxos{Notes: slices.Clone(h.notes), Votes: slices.Clone(h.votes)}
	for _, v := range h.voters {
		made.Voters = append(made.Voters, v.paxos())
	}
	for _, a := range h.askers {
		made.Askers = append(made.Askers, a.paxos())
	}
	return made
}

func (h *tale) writeToEach(n impl.Note) {
	for voter := range h.voters {
		n.Voter = voter
		h.notes = append(h.notes, n)
	}
	h.notes = h.notes[:min(60, len(h.notes))]
}

func (h *tale) arrives(n impl.Note) {
	v, a := &h.voters[n.Voter], &h.askers[n.Asker]
	switch n.Kind {
	case impl.NotePrepare:
		if slices.ContainsFunc(v.answered, func(b int) bool { return b >= n.Ballot }) {
			return
		}
		v.answered = append(v.answered, n.Ballot)
		last := v.paxos()
		h.notes = append(h.notes, promise(n.Asker, n.Voter, n.Ballot, last.Ballot, last.Value))
	case impl.NotePromise:
		if !a.asks || a.ballot != n.Ballot || slices.Contains(a.paxos().Heard, n.Voter) {
			return
		}
		a.told = append(a.told, n)
		if 2*len(a.told) > len(h.voters) {
			a.asks = false
			h.writeToEach(accept(n.Asker, 0, n.Ballot, a.wants()))
		}
	case impl.NoteAccept:
		if slices.ContainsFunc(v.answered, func(b int) bool { return b > n.Ballot }) {
			return
		}
		vote := impl.Vote{Voter: n.Voter, Ballot: n.Ballot, Value: n.Value}
		v.answered, v.votes = append(v.answered, n.Ballot), append(v.votes, vote)
		h.votes = append(h.votes, vote)
	}
}

func (h *tale) asks(asker int, value string) bool {
	a := &h.askers[asker]
	if a.rounds >= 1000 || value == "" || len(value) >= 9 {
		return false
	}
	*a = askerTale{rounds: a.rounds + 1, asks: true, own: value}
	a.ballot = 3*a.rounds + asker
	h.writeToEach(prepare(asker, 0, a.ballot))
	return true
}

// happens does a step, and tells whether it can be done; where it cannot, the tale is as it was (but for one vote too many).
func (h *tale) happens(s impl.PaxosStep) bool {
	isAsker := s.Asker >= 0 && s.Asker < len(h.askers)
	isNote := s.K >= 0 && s.K < len(h.notes)
	switch {
	case s.Kind == impl.PaxAsk && isAsker:
		return h.asks(s.Asker, s.Value)
	case s.Kind == impl.PaxForget && isAsker:
		asked := h.askers[s.Asker].asks
		h.askers[s.Asker].asks = false
		return asked
	case s.Kind == impl.PaxTwice && isNote && len(h.notes) < 60:
		h.notes = append(h.notes, h.notes[s.K])
		return true
	case (s.Kind == impl.PaxTake || s.Kind == impl.PaxLose) && isNote:
		n := h.notes[s.K]
		h.notes = slices.Concat(h.notes[:s.K], h.notes[s.K+1:])
		if s.Kind == impl.PaxTake {
			h.arrives(n)
		}
		return len(h.votes) <= 1000
	}
	return false
}

// oracleStep takes a good paxos.
func oracleStep(p impl.Paxos, s impl.PaxosStep) (impl.Paxos, bool) {
	h := taleOf(p)
	if !h.happens(s) {
		return impl.Paxos{}, false
	}
	return h.paxos(), true
}

func between(n int, from int, to int) bool {
	return from <= n && n <= to
}

func oracleGoodWithBallot(ballot int, value string) bool {
	if ballot == 0 || value == "" {
		return ballot == 0 && value == ""
	}
	return between(ballot, 1, 10000) && between(len(value), 1, 8)
}

func oracleGoodAsker(a impl.Asker, voters int) bool {
	if !between(a.Round, 0, 1000) || !oracleGoodWithBallot(a.Ballot, a.Own) || !oracleGoodWithBallot(a.Had, a.Value) || !oracleRises(a.Heard, voters) {
		return false
	}
	return a.Asks && a.Ballot > 0 || !a.Asks && a.Ballot == 0 && a.Had == 0 && len(a.Heard) == 0
}

func oracleGoodNote(n impl.Note, voters int, askers int) bool {
	if !between(n.Voter, 0, voters-1) || !between(n.Asker, 0, askers-1) || !between(n.Ballot, 1, 10000) {
		return false
	}
	named := map[int]impl.Note{
		impl.NotePrepare: prepare(n.Asker, n.Voter, n.Ballot),
		impl.NotePromise: promise(n.Asker, n.Voter, n.Ballot, n.Had, n.Value),
		impl.NoteAccept:  accept(n.Asker, n.Voter, n.Ballot, n.Value),
	}
	if n.Kind == impl.NoteAccept && !between(len(n.Value), 1, 8) || n.Kind == impl.NotePromise && !oracleGoodWithBallot(n.Had, n.Value) {
		return false
	}
	made, told := named[n.Kind]
	return told && made == n
}

// oracleGoodPaxos asks rule by rule.
func oracleGoodPaxos(p impl.Paxos) bool {
	voters, askers := len(p.Voters), len(p.Askers)
	if !between(voters, 1, 5) || !between(askers, 1, 3) || len(p.Notes) > 60 || len(p.Votes) > 1000 {
		return false
	}
	for _, v := range p.Voters {
		if !between(v.Promised, 0, 10000) || !oracleGoodWithBallot(v.Ballot, v.Value) {
			return false
		}
	}
	for _, a := range p.Askers {
		if !oracleGoodAsker(a, voters) {
			return false
		}
	}
	for _, n := range p.Notes {
		if !oracleGoodNote(n, voters, askers) {
			return false
		}
	}
	for _, v := range p.Votes {
		if !between(v.Voter, 0, voters-1) || v.Ballot == 0 || !oracleGoodWithBallot(v.Ballot, v.Value) {
			return false
		}
	}
	return true
}

// oracleIsChosen asks for each ballot by itself which voters have given a vote for a value.
func oracleIsChosen(votes []impl.Vote, voters int, value string) bool {
	votersOf := map[int]map[int]bool{}
	for _, v := range votes {
		if v.Value != value {
			continue
		}
		if votersOf[v.Ballot] == nil {
			votersOf[v.Ballot] = map[int]bool{}
		}
		votersOf[v.Ballot][v.Voter] = true
		if 2*len(votersOf[v.Ballot]) > voters {
			return true
		}
	}
	return false
}

// oracleChosen asks what is chosen behind each vote that was not ahead of it.
func oracleChosen(p impl.Paxos) []string {
	var chosen []string
	for k, v := range p.Votes {
		if !slices.Contains(chosen, v.Value) && oracleIsChosen(p.Votes[:k+1], len(p.Voters), v.Value) {
			chosen = append(chosen, v.Value)
		}
	}
	return chosen
}

func sameAsker(a impl.Asker, b impl.Asker) bool {
	heard := slices.Equal(a.Heard, b.Heard)
	return heard && a.Round == b.Round && a.Ballot == b.Ballot && a.Own == b.Own && a.Had == b.Had && a.Value == b.Value && a.Asks == b.Asks
}

func samePaxos(a impl.Paxos, b impl.Paxos) bool {
	return slices.Equal(a.Voters, b.Voters) && slices.EqualFunc(a.Askers, b.Askers, sameAsker) && slices.Equal(a.Notes, b.Notes) && slices.Equal(a.Votes, b.Votes)
}

func wantPaxos(t *testing.T, what string, got impl.Paxos, ok bool, want impl.Paxos) {
	t.Helper()
	if !ok || !samePaxos(got, want) {
		t.Errorf("%s is\n%v %v, not\n%v", what, got, ok, want)
	}
}

func wantZeroPaxos(t *testing.T, what string, got impl.Paxos, ok bool) {
	t.Helper()
	if ok || !samePaxos(got, impl.Paxos{}) {
		t.Errorf("%s is %v %v, not zero and false", what, got, ok)
	}
}

func wantStep(t *testing.T, what string, p impl.Paxos, s impl.PaxosStep, want impl.Paxos) {
	t.Helper()
	got, ok := impl.StepPaxos(p, s)
	wantPaxos(t, what+": StepPaxos", got, ok, want)
	if !impl.GoodPaxos(got) {
		t.Errorf("%s: StepPaxos(%v, %v) is not good: %v", what, p, s, got)
	}
}

func wantNoStep(t *testing.T, what string, p impl.Paxos, s impl.PaxosStep) {
	t.Helper()
	got, ok := impl.StepPaxos(p, s)
	wantZeroPaxos(t, what+": StepPaxos", got, ok)
}

// wantStepAsTold asks for a step of a good paxos what the tale tells, and whether it can be done.
func wantStepAsTold(t *testing.T, what string, p impl.Paxos, s impl.PaxosStep) bool {
	t.Helper()
	want, done := oracleStep(p, s)
	if done {
		wantStep(t, what, p, s, want)
	} else {
		wantNoStep(t, what, p, s)
	}
	return done
}

func wantStepIsDone(t *testing.T, what string, p impl.Paxos, s impl.PaxosStep, want bool) {
	t.Helper()
	if done := wantStepAsTold(t, what, p, s); done != want {
		t.Errorf("%s: that %v is done is told %v", what, s, done)
	}
}

func wantChosen(t *testing.T, what string, p impl.Paxos, want ...string) {
	t.Helper()
	if got, ok := impl.ChosenIn(p); !ok || !slices.Equal(got, want) {
		t.Errorf("%s: ChosenIn(%v) is %q %v, not %q", what, p, got, ok, want)
	}
}

// wantNotGoodPaxos asks each function that takes a paxos for its answer where it is not good.
func wantNotGoodPaxos(t *testing.T, what string, p impl.Paxos) {
	t.Helper()
	if impl.GoodPaxos(p) {
		t.Errorf("%s: it is good: %v", what, p)
	}
	if l, ok := impl.ChosenIn(p); len(l) != 0 || ok {
		t.Errorf("%s: ChosenIn(%v) is %q %v", what, p, l, ok)
	}
	for _, s := range []impl.PaxosStep{askStep(0, "x"), takeStep(0), takeStep(len(p.Notes) - 1), loseStep(0), twiceStep(0), forgetStep(0), {}} {
		wantNoStep(t, what, p, s)
	}
}

// wantAsPaxosRulesSay tells whether the rules say that a paxos is good.
func wantAsPaxosRulesSay(t *testing.T, what string, p impl.Paxos) bool {
	t.Helper()
	good := oracleGoodPaxos(p)
	if !good {
		wantNotGoodPaxos(t, what, p)
	} else if !impl.GoodPaxos(p) {
		t.Errorf("%s: it is not good: %v", what, p)
	}
	return good
}
