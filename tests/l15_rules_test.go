package tests

import (
	"slices"
	"strings"
	"testing"

	"loop.example/g00274/impl"
)

func noteWith(n impl.Note) impl.Paxos {
	p, _ := withNote(busyPaxos(), n)
	return p
}

func voteWith(v impl.Vote) impl.Paxos {
	return paxosWith(func(p *impl.Paxos) { p.Votes = append(p.Votes, v) })
}

func askingWith(change func(a *impl.Asker)) impl.Paxos {
	return askerWith(1, change)
}

func idleWith(change func(a *impl.Asker)) impl.Paxos {
	return askerWith(0, change)
}

func voterBroken() map[string]impl.Paxos {
	return map[string]impl.Paxos{
		"Promised below 0":           voterWith(3, impl.Voter{Promised: -1}),
		"Promised beyond":            voterWith(3, impl.Voter{Promised: 10001}),
		"the least Promised":         voterWith(4, impl.Voter{Promised: least}),
		"the greatest Promised":      voterWith(0, impl.Voter{Promised: greatest, Ballot: 3, Value: "a"}),
		"a Ballot below 0":           voterWith(0, impl.Voter{Promised: 7, Ballot: -1, Value: "a"}),
		"a Ballot below 0, no value": voterWith(0, impl.Voter{Promised: 7, Ballot: -1}),
		"a Ballot beyond":            voterWith(0, impl.Voter{Promised: 10000, Ballot: 10001, Value: "a"}),
		"a Ballot without a value":   voterWith(0, impl.Voter{Promised: 7, Ballot: 3}),
		"a value without a Ballot":   voterWith(0, impl.Voter{Promised: 7, Value: "a"}),
		"a value of 9 bytes":         voterWith(0, impl.Voter{Promised: 7, Ballot: 3, Value: "ninebytes"}),
		"9 bytes without a Ballot":   voterWith(4, impl.Voter{Value: "ninebytes"}),
	}
}

func askerBroken() map[string]impl.Paxos {
	return map[string]impl.Paxos{
		"Round below 0":                 askingWith(func(a *impl.Asker) { a.Round = -1 }),
		"Round beyond":                  askingWith(func(a *impl.Asker) { a.Round = 1001 }),
		"the greatest Round":            askingWith(func(a *impl.Asker) { a.Round = greatest }),
		"one that asks, Ballot 0":       askingWith(func(a *impl.Asker) { a.Ballot = 0 }),
		"no Ballot and no Own":          askingWith(func(a *impl.Asker) { a.Ballot, a.Own = 0, "" }),
		"Ballot below 0":                askingWith(func(a *impl.Asker) { a.Ballot = -1 }),
		"Ballot beyond":                 askingWith(func(a *impl.Asker) { a.Ballot = 10001 }),
		"no Own":                        askingWith(func(a *impl.Asker) { a.Own = "" }),
		"Own of 9 bytes":                askingWith(func(a *impl.Asker) { a.Own = "ninebytes" }),
		"Had 0 with a value":            askingWith(func(a *impl.Asker) { a.Had = 0 }),
		"Had without a value":           askingWith(func(a *impl.Asker) { a.Value = "" }),
		"Had below 0":                   askingWith(func(a *impl.Asker) { a.Had = -1 }),
		"Had below 0, no value":         askingWith(func(a *impl.Asker) { a.Had, a.Value = -1, "" }),
		"Had beyond":                    askingWith(func(a *impl.Asker) { a.Had = 10001 }),
		"a value of 9 bytes":            askingWith(func(a *impl.Asker) { a.Value = "ninebytes" }),
		"Heard twice":                   askingWith(func(a *impl.Asker) { a.Heard = []int{1, 1} }),
		"Heard falls":                   askingWith(func(a *impl.Asker) { a.Heard = []int{1, 0} }),
		"Heard falls at the end":        askingWith(func(a *impl.Asker) { a.Heard = []int{0, 1, 3, 2} }),
		"Heard of a voter beyond":       askingWith(func(a *impl.Asker) { a.Heard = []int{0, 5} }),
		"Heard of a voter below 0":      askingWith(func(a *impl.Asker) { a.Heard = []int{-1, 0} }),
		"Heard of a million":            askingWith(func(a *impl.Asker) { a.Heard = numbersBelow(1000000) }),
		"all of one that asks, no Asks": askingWith(func(a *impl.Asker) { a.Asks = false }),
		"nothing of one that asks":      askingWith(func(a *impl.Asker) { *a = impl.Asker{Asks: true} }),
		"a Round of one that asks":      askingWith(func(a *impl.Asker) { *a = impl.Asker{Round: 2, Asks: true} }),
		"one that does not, a Ballot":   idleWith(func(a *impl.Asker) { a.Ballot = 3 }),
		"one that does not, an Own":     idleWith(func(a *impl.Asker) { a.Own = "a" }),
		"one that does not, both":       idleWith(func(a *impl.Asker) { a.Ballot, a.Own = 3, "a" }),
		"one that does not, Heard":      idleWith(func(a *impl.Asker) { a.Heard = []int{0} }),
		"one that does not, Had":        idleWith(func(a *impl.Asker) { a.Had = 3 }),
		"one that does not, a value":    idleWith(func(a *impl.Asker) { a.Value = "a" }),
		"one that does not, a vote":     idleWith(func(a *impl.Asker) { a.Had, a.Value = 3, "a" }),
		"one that does not, Round -1":   idleWith(func(a *impl.Asker) { a.Round = -1 }),
		"one that does not, Round 1001": idleWith(func(a *impl.Asker) { a.Round = 1001 }),
	}
}

func noteBroken() map[string]impl.Paxos {
	return map[string]impl.Paxos{
		"a note of no kind":               noteWith(impl.Note{Kind: 0, Ballot: 3}),
		"a note of the kind 4":            noteWith(impl.Note{Kind: 4, Ballot: 3, Value: "a"}),
		"a note of the kind -1":           noteWith(impl.Note{Kind: -1, Ballot: 3}),
		"a note of the greatest kind":     noteWith(impl.Note{Kind: greatest, Ballot: 3}),
		"nothing":                         noteWith(impl.Note{}),
		"prepare: Ballot 0":               noteWith(prepare(1, 2, 0)),
		"prepare: Ballot -1":              noteWith(prepare(1, 2, -1)),
		"prepare: Ballot beyond":          noteWith(prepare(1, 2, 10001)),
		"prepare: no asker":               noteWith(prepare(3, 2, 7)),
		"prepare: asker -1":               noteWith(prepare(-1, 2, 7)),
		"prepare: no voter":               noteWith(prepare(1, 5, 7)),
		"prepare: voter -1":               noteWith(prepare(1, -1, 7)),
		"prepare: Had":                    noteWith(impl.Note{Kind: impl.NotePrepare, Ballot: 7, Had: 3}),
		"prepare: a value":                noteWith(impl.Note{Kind: impl.NotePrepare, Ballot: 7, Value: "a"}),
		"prepare: Had and a value":        noteWith(impl.Note{Kind: impl.NotePrepare, Ballot: 7, Had: 3, Value: "a"}),
		"promise: Ballot 0":               noteWith(promise(1, 2, 0, 0, "")),
		"promise: Ballot -1":              noteWith(promise(1, 2, -1, 3, "a")),
		"promise: Ballot beyond":          noteWith(promise(1, 2, 10001, 3, "a")),
		"promise: no asker":               noteWith(promise(3, 2, 7, 3, "a")),
		"promise: asker -1":               noteWith(promise(-1, 2, 7, 3, "a")),
		"promise: no voter":               noteWith(promise(1, 5, 7, 3, "a")),
		"promise: voter -1":               noteWith(promise(1, -1, 7, 3, "a")),
		"promise: Had below 0":            noteWith(promise(1, 2, 7, -1, "a")),
		"promise: Had below 0, no value":  noteWith(promise(1, 2, 7, -1, "")),
		"promise: Had beyond":             noteWith(promise(1, 2, 7, 10001, "a")),
		"promise: Had without a value":    noteWith(promise(1, 2, 7, 3, "")),
		"promise: a value without Had":    noteWith(promise(1, 2, 7, 0, "a")),
		"promise: a value of 9 bytes":     noteWith(promise(1, 2, 7, 3, "ninebytes")),
		"accept: Ballot 0":                noteWith(accept(1, 2, 0, "a")),
		"accept: Ballot 0, no value":      noteWith(accept(1, 2, 0, "")),
		"accept: Ballot -1":               noteWith(accept(1, 2, -1, "a")),
		"accept: Ballot beyond":           noteWith(accept(1, 2, 10001, "a")),
		"accept: no asker":                noteWith(accept(3, 2, 7, "a")),
		"accept: asker -1":                noteWith(accept(-1, 2, 7, "a")),
		"accept: no voter":                noteWith(accept(1, 5, 7, "a")),
		"accept: voter -1":                noteWith(accept(1, -1, 7, "a")),
		"accept: no value":                noteWith(accept(1, 2, 7, "")),
		"accept: a value of 9 bytes":      noteWith(accept(1, 2, 7, "ninebytes")),
		"accept: Had":                     noteWith(impl.Note{Kind: impl.NoteAccept, Ballot: 7, Had: 3, Value: "a"}),
		"a broken note ahead of all":      paxosWith(func(p *impl.Paxos) { p.Notes[0].Ballot = 0 }),
		"an asker that is none any more":  paxosWith(func(p *impl.Paxos) { p.Askers = p.Askers[:2] }),
		"a voter that is none any more":   paxosWith(func(p *impl.Paxos) { p.Voters = p.Voters[:4] }),
		"a note that is beyond the limit": filledTo(busyPaxos(), 61),
		"a million notes":                 paxosWith(func(p *impl.Paxos) { p.Notes = slices.Repeat([]impl.Note{prepare(0, 0, 1)}, 1000000) }),
	}
}

func voteBroken() map[string]impl.Paxos {
	return map[string]impl.Paxos{
		"a vote of Ballot 0":            voteWith(vote(0, 0, "a")),
		"a vote of Ballot 0, no value":  voteWith(vote(0, 0, "")),
		"a vote of Ballot -1":           voteWith(vote(0, -1, "a")),
		"a vote of a Ballot beyond":     voteWith(vote(0, 10001, "a")),
		"a vote for no value":           voteWith(vote(0, 3, "")),
		"a vote for 9 bytes":            voteWith(vote(0, 3, "ninebytes")),
		"a vote for a million bytes":    voteWith(vote(0, 3, strings.Repeat("a", 1000000))),
		"a vote of no voter":            voteWith(vote(5, 3, "a")),
		"a vote of the voter -1":        voteWith(vote(-1, 3, "a")),
		"a vote of the greatest number": voteWith(vote(greatest, 3, "a")),
		"a vote of nothing":             voteWith(impl.Vote{}),
		"a broken vote ahead of all":    paxosWith(func(p *impl.Paxos) { p.Votes[0].Value = "" }),
		"a vote too many":               paxosWith(func(p *impl.Paxos) { p.Votes = slices.Repeat(p.Votes[:1], 1001) }),
		"a million votes":               paxosWith(func(p *impl.Paxos) { p.Votes = slices.Repeat(p.Votes, 500000) }),
	}
}

func manyBroken() map[string]impl.Paxos {
	return map[string]impl.Paxos{
		"nothing at all":         {},
		"no voters":              {Askers: make([]impl.Asker, 1)},
		"no askers":              {Voters: make([]impl.Voter, 1)},
		"a voter too many":       {Voters: make([]impl.Voter, 6), Askers: make([]impl.Asker, 1)},
		"an asker too many":      {Voters: make([]impl.Voter, 1), Askers: make([]impl.Asker, 4)},
		"a busy voter too many":  paxosWith(func(p *impl.Paxos) { p.Voters = append(p.Voters, impl.Voter{}) }),
		"a busy asker too many":  paxosWith(func(p *impl.Paxos) { p.Askers = append(p.Askers, impl.Asker{}) }),
		"a million voters":       {Voters: make([]impl.Voter, 1000000), Askers: make([]impl.Asker, 1)},
		"a million askers":       {Voters: make([]impl.Voter, 1), Askers: make([]impl.Asker, 1000000)},
		"busy, but for voters":   paxosWith(func(p *impl.Paxos) { p.Voters = nil }),
		"busy, but for askers":   paxosWith(func(p *impl.Paxos) { p.Askers = nil }),
		"notes and votes, alone": {Notes: busyPaxos().Notes, Votes: busyPaxos().Votes},
	}
}

func allBroken() []map[string]impl.Paxos {
	return []map[string]impl.Paxos{voterBroken(), askerBroken(), noteBroken(), voteBroken(), manyBroken()}
}

func TestPromise15PaxosThatBreakARule(t *testing.T) {
	for _, broken := range allBroken() {
		for what, p := range broken {
			if oracleGoodPaxos(p) {
				t.Errorf("%s: it breaks no rule", what)
			}
			wantNotGoodPaxos(t, what, p)
		}
	}
}

func TestPromise15PaxosThatAreGood(t *testing.T) {
	for what, p := range map[string]impl.Paxos{
		"what was played":                  busyPaxos(),
		"one of each":                      votesOf(1),
		"all that may be":                  {Voters: make([]impl.Voter, 5), Askers: make([]impl.Asker, 3)},
		"Promised 0, a Ballot":             voterWith(0, impl.Voter{Ballot: 1, Value: "a"}),
		"Promised 1":                       voterWith(0, impl.Voter{Promised: 1}),
		"the greatest ballots":             voterWith(0, impl.Voter{Promised: 10000, Ballot: 10000, Value: "eightbyt"}),
		"a Ballot above Promised":          voterWith(0, impl.Voter{Promised: 3, Ballot: 7, Value: "a"}),
		"Round 0 that asks":                askingWith(func(a *impl.Asker) { a.Round = 0 }),
		"Round 1000 that asks":             askingWith(func(a *impl.Asker) { a.Round = 1000 }),
		"Round 1000 that does not":         idleWith(func(a *impl.Asker) { a.Round = 1000 }),
		"Ballot 1 that asks":               askingWith(func(a *impl.Asker) { a.Ballot = 1 }),
		"Ballot 10000 that asks":           askingWith(func(a *impl.Asker) { a.Ballot = 10000 }),
		"Own of 1 byte":                    askingWith(func(a *impl.Asker) { a.Own = "\x00" }),
		"Own of 8 bytes":                   askingWith(func(a *impl.Asker) { a.Own = "eightbyt" }),
		"Had 1":                            askingWith(func(a *impl.Asker) { a.Had, a.Value = 1, "eightbyt" }),
		"Had 10000":                        askingWith(func(a *impl.Asker) { a.Had = 10000 }),
		"Had 0":                            askingWith(func(a *impl.Asker) { a.Had, a.Value = 0, "" }),
		"Had, heard of none":               askingWith(func(a *impl.Asker) { a.Heard = nil }),
		"heard of none, as an empty list":  askingWith(func(a *impl.Asker) { a.Heard = []int{} }),
		"heard of the last one":            askingWith(func(a *impl.Asker) { a.Heard = []int{4} }),
		"heard of all":                     askingWith(func(a *impl.Asker) { a.Heard = numbersBelow(5) }),
		"an empty list that does not ask":  idleWith(func(a *impl.Asker) { a.Heard = []int{} }),
		"prepare: Ballot 1":                noteWith(prepare(2, 4, 1)),
		"prepare: Ballot 10000":            noteWith(prepare(0, 0, 10000)),
		"promise: Had 0":                   noteWith(promise(2, 4, 1, 0, "")),
		"promise: Had 1":                   noteWith(promise(0, 0, 10000, 1, "a")),
		"promise: Had beyond the Ballot":   noteWith(promise(0, 0, 1, 10000, "eightbyt")),
		"accept: Ballot 1":                 noteWith(accept(2, 4, 1, "a")),
		"accept: Ballot 10000":             noteWith(accept(0, 0, 10000, "eightbyt")),
		"as many notes as may be":          filledTo(busyPaxos(), 60),
		"no notes":                         paxosWith(func(p *impl.Paxos) { p.Notes = nil }),
		"a vote of Ballot 1":               voteWith(vote(4, 1, "a")),
		"a vote of Ballot 10000":           voteWith(vote(0, 10000, "eightbyt")),
		"as many votes as may be":          paxosWith(func(p *impl.Paxos) { p.Votes = slices.Repeat(p.Votes[:1], 1000) }),
		"votes that none has":              voteWith(vote(3, 9, "z")),
		"no votes, though there are two":   paxosWith(func(p *impl.Paxos) { p.Votes = nil }),
		"two askers with one ballot":       askerWith(2, func(a *impl.Asker) { a.Ballot = 7 }),
		"the ballot of another round":      askerWith(2, func(a *impl.Asker) { a.Ballot = 8 }),
		"unlike values of one ballot":      voteWith(vote(1, 3, "z")),
		"one that asks and was never told": askerWith(0, func(a *impl.Asker) { *a = impl.Asker{Ballot: 1, Own: "a", Asks: true} }),
	} {
		if !oracleGoodPaxos(p) || !impl.GoodPaxos(p) {
			t.Errorf("%s: not good: %v", what, p)
		}
		wantChosen(t, what, p, oracleChosen(p)...)
		for k := range 17 {
			wantStepAsTold(t, what, p, takeStep(k))
			wantStepAsTold(t, what, p, askStep(k, "x"))
			wantStepAsTold(t, what, p, forgetStep(k))
		}
	}
}

// Each place that holds a value, beside each number that may go with it.
func TestPromise15ValuesBesideBallots(t *testing.T) {
	for _, n := range []int{-1, 0, 1, 10000, 10001} {
		for length := range 10 {
			value := strings.Repeat("v", length)
			wantAsPaxosRulesSay(t, "a voter", voterWith(1, impl.Voter{Promised: 7, Ballot: n, Value: value}))
			wantAsPaxosRulesSay(t, "Own", askingWith(func(a *impl.Asker) { a.Ballot, a.Own = n, value }))
			wantAsPaxosRulesSay(t, "Own that does not ask", idleWith(func(a *impl.Asker) { a.Ballot, a.Own = n, value }))
			wantAsPaxosRulesSay(t, "Had", askingWith(func(a *impl.Asker) { a.Had, a.Value = n, value }))
			wantAsPaxosRulesSay(t, "Had that does not ask", idleWith(func(a *impl.Asker) { a.Had, a.Value = n, value }))
			wantAsPaxosRulesSay(t, "a vote", voteWith(vote(2, n, value)))
			for kind := range 5 {
				wantAsPaxosRulesSay(t, "a note's Ballot", noteWith(impl.Note{Kind: kind, Ballot: n, Value: value}))
				wantAsPaxosRulesSay(t, "a note's Had", noteWith(impl.Note{Kind: kind, Ballot: 7, Had: n, Value: value}))
				wantAsPaxosRulesSay(t, "both of a note", noteWith(impl.Note{Kind: kind, Ballot: n, Had: n, Value: value}))
			}
		}
	}
}

// numbersIn are all numbers of a paxos, textsIn all texts: each is another way to one of its fields.
func numbersIn(p *impl.Paxos) []*int {
	var all []*int
	for k := range p.Voters {
		all = append(all, &p.Voters[k].Promised, &p.Voters[k].Ballot)
	}
	for k := range p.Askers {
		a := &p.Askers[k]
		all = append(all, &a.Round, &a.Ballot, &a.Had)
		for i := range a.Heard {
			all = append(all, &a.Heard[i])
		}
	}
	for k := range p.Notes {
		n := &p.Notes[k]
		all = append(all, &n.Kind, &n.Asker, &n.Voter, &n.Ballot, &n.Had)
	}
	for k := range p.Votes {
		all = append(all, &p.Votes[k].Voter, &p.Votes[k].Ballot)
	}
	return all
}

func textsIn(p *impl.Paxos) []*string {
	var all []*string
	for k := range p.Voters {
		all = append(all, &p.Voters[k].Value)
	}
	for k := range p.Askers {
		all = append(all, &p.Askers[k].Own, &p.Askers[k].Value)
	}
	for k := range p.Notes {
		all = append(all, &p.Notes[k].Value)
	}
	for k := range p.Votes {
		all = append(all, &p.Votes[k].Value)
	}
	return all
}

// Some changes leave a good paxos: the rules tell which.
func TestPromise15OneThingChangedInAPaxos(t *testing.T) {
	good, bad := 0, 0
	tell := func(what string, p impl.Paxos) {
		if wantAsPaxosRulesSay(t, what, p) {
			good++
		} else {
			bad++
		}
	}
	numbers := []int{least, -1, 0, 1, 2, 3, 4, 5, 7, 1000, 1001, 10000, 10001, 1<<32 + 1, greatest}
	p := busyPaxos()
	for k := range numbersIn(&p) {
		for _, n := range numbers {
			tell("another number", paxosWith(func(p *impl.Paxos) { *numbersIn(p)[k] = n }))
		}
	}
	for k := range textsIn(&p) {
		for _, s := range []string{"", "x", "eightbyt", "ninebytes", "\xff"} {
			tell("another text", paxosWith(func(p *impl.Paxos) { *textsIn(p)[k] = s }))
		}
	}
	for k := range p.Askers {
		tell("Asks turned", askerWith(k, func(a *impl.Asker) { a.Asks = !a.Asks }))
		for many := range 7 {
			tell("others heard", askerWith(k, func(a *impl.Asker) { a.Heard = numbersBelow(many) }))
		}
	}
	for many := range 7 {
		tell("so many voters", paxosWith(func(p *impl.Paxos) { p.Voters = append(p.Voters, impl.Voter{})[:min(many, 6)] }))
		tell("so many askers", paxosWith(func(p *impl.Paxos) { p.Askers = append(p.Askers, impl.Asker{})[:min(many, 4)] }))
	}
	if good < 300 || bad < 800 {
		t.Errorf("%d good and %d bad: that tells little", good, bad)
	}
}

func TestPromise15GoodPaxosAgainstTheRules(t *testing.T) {
	d := &dice{state: 154}
	good, bad := 0, 0
	numbers := []int{-1, 0, 1, 2, 3, 4, 5, 7, 10000, 10001}
	texts := []string{"", "a", "b", "eightbyt", "ninebytes"}
	for range 4000 {
		p := d.anyPaxos()
		for range d.below(3) {
			n, s := numbersIn(&p), textsIn(&p)
			if d.below(2) == 0 {
				*n[d.below(len(n))] = numbers[d.below(len(numbers))]
			} else {
				*s[d.below(len(s))] = texts[d.below(len(texts))]
			}
		}
		if d.below(12) == 0 {
			a := &p.Askers[d.below(len(p.Askers))]
			a.Asks = !a.Asks
		}
		if wantAsPaxosRulesSay(t, "disturbed", p) {
			good++
		} else {
			bad++
		}
	}
	if good < 1000 || bad < 1000 {
		t.Errorf("%d good and %d bad: that tells little", good, bad)
	}
}
