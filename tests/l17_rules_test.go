package tests

import (
	"fmt"
	"slices"
	"strings"
	"testing"

	"loop.example/g00274/impl"
)

func nineOps() []impl.Op {
	return []impl.Op{
		putNumber(1, 1, 5, 50), putOp(1, 2, 7, treeIn(`{"a":[1,2]}`).value()), delOp(1, 3, 5),
		putNumber(2, 1, 5, 51), delOp(2, 2, 99), putNumber(2, 2, 6, 60),
		putNumber(100, 1000, 100, 1), delOp(0, 1, 7), putNumber(3, 4, 0, 3),
	}
}

// choosing is what votes alone make: these values are chosen one behind the other.
func choosing(voters int, values ...string) impl.Paxos {
	p := impl.Paxos{Voters: make([]impl.Voter, voters), Askers: make([]impl.Asker, 3)}
	for k, value := range values {
		for voter := range voters/2 + 1 {
			p.Votes = append(p.Votes, vote(voter, 3+k, value))
		}
	}
	return p
}

// newGroup is what NewGroup is to make.
func newGroup(ops []impl.Op, replicas int) impl.Group {
	g := impl.Group{Ops: ops}
	for range 12 {
		g.Places = append(g.Places, impl.Place{Paxos: choosing(replicas)})
	}
	for range replicas {
		g.Replicas = append(g.Replicas, impl.Replica{Known: noPlaces()})
	}
	return g
}

// asked is where the asker has asked for one value, and all notes are still there.
func asked(voters int, asker int, value string) impl.Paxos {
	p, _ := oracleStep(choosing(voters), askStep(asker, value))
	return p
}

// busyGroup has a place of each sort, and replicas that know much, nothing, what is behind a gap, and what was chosen second.
func busyGroup() impl.Group {
	g := newGroup(nineOps(), 5)
	for k, p := range []impl.Paxos{
		choosing(5, "3"), choosing(5, "0"), asked(5, 0, "1"), choosing(5, "8"), choosing(5, "x"), choosing(5, "9"),
		choosing(5, "2", "4"), choosing(5, "x", "5"), busyPaxos(), filledTo(busyPaxos(), 60), choosing(5), choosing(5, "7"),
	} {
		g.Places[k].Paxos = p
	}
	g.Places[11].Paxos.Askers[0].Round = 1000
	one, _ := oracleReplay(impl.Base{}, 0, []impl.Op{g.Ops[3]})
	two, _ := oracleReplay(one, 1, []impl.Op{g.Ops[0]})
	g.Replicas = []impl.Replica{
		{Known: knowing(map[int]string{0: "3", 1: "0", 3: "8"}), Base: two, Saved: one},
		{Known: noPlaces()},
		{Known: knowing(map[int]string{1: "0", 3: "8"})},
		{Known: knowing(map[int]string{0: "3", 6: "4"}), Base: one, Saved: one},
		{Known: noPlaces(), Base: busyBase(), Saved: crowdedBase(60, 20, 8)},
	}
	return g
}

func groupWith(change func(g *impl.Group)) impl.Group {
	g := busyGroup()
	change(&g)
	return g
}

// placeWith is busy, but for one place, of which nothing is known.
func placeWith(place int, p impl.Paxos) impl.Group {
	return groupWith(func(g *impl.Group) {
		g.Places[place].Paxos = p
		for _, r := range g.Replicas {
			r.Known[place] = ""
		}
	})
}

func knownWith(replica int, place int, value string) impl.Group {
	return groupWith(func(g *impl.Group) { g.Replicas[replica].Known[place] = value })
}

func baseOfWith(replica int, base impl.Base, saved impl.Base) impl.Group {
	return groupWith(func(g *impl.Group) { g.Replicas[replica].Base, g.Replicas[replica].Saved = base, saved })
}

func goodGroups() map[string]impl.Group {
	all := map[string]impl.Group{
		"busy":                        busyGroup(),
		"one op":                      newGroup(nineOps()[:1], 5),
		"nine ops":                    newGroup(nineOps(), 5),
		"ops that are alike":          newGroup(slices.Repeat(nineOps()[:1], 9), 2),
		"Known as chosen":             knownWith(4, 11, "7"),
		"Known as chosen first":       knownWith(4, 6, "2"),
		"Known as chosen second":      knownWith(4, 6, "4"),
		"Known, second behind no op":  knownWith(4, 7, "5"),
		"a place of nothing":          placeWith(0, choosing(5)),
		"Saved beyond Base":           baseOfWith(1, impl.Base{}, crowdedBase(60, 20, 8)),
		"Base beyond the row":         baseOfWith(1, crowdedBase(60, 20, 8), impl.Base{}),
		"a note with another's value": placeWith(10, noteWith(accept(0, 0, 3, "eightbyt"))),
	}
	for replicas := 1; replicas <= 5; replicas++ {
		all[fmt.Sprint(replicas, " replicas")] = newGroup(nineOps(), replicas)
	}
	for what, b := range goodBases() {
		all["Base "+what] = baseOfWith(2, b, impl.Base{})
		all["Saved "+what] = baseOfWith(2, impl.Base{}, b)
	}
	for op := range 9 {
		g := newGroup(nineOps()[:op+1], 3)
		g.Places[op].Paxos = choosing(3, fmt.Sprint(op))
		g.Replicas[1].Known[op] = fmt.Sprint(op)
		all[fmt.Sprint("the last op is ", op)] = g
	}
	return all
}

func TestPromise17GroupsThatAreGood(t *testing.T) {
	for what, g := range goodGroups() {
		if !wantAsGroupRulesSay(t, what, g) {
			t.Errorf("%s: it breaks a rule", what)
		}
		for _, s := range someGroupSteps() {
			wantGroupStep(t, what, g, s)
		}
	}
}

func wantBrokenGroup(t *testing.T, what string, g impl.Group) {
	t.Helper()
	if oracleGoodGroup(g) {
		t.Errorf("%s: it breaks no rule", what)
	}
	wantNotGoodGroup(t, what, g)
}

func newGroupWith(replicas int, change func(g *impl.Group)) impl.Group {
	g := newGroup(nineOps(), replicas)
	change(&g)
	return g
}

// morePlaces has as many places, and Known of as many.
func morePlaces(many int) impl.Group {
	return newGroupWith(3, func(g *impl.Group) {
		g.Places = slices.Repeat(g.Places[:1], many)
		for k := range g.Replicas {
			g.Replicas[k].Known = make([]string, many)
		}
	})
}

// otherGathering has a paxos of so many voters and askers at one place of a group of three.
func otherGathering(place int, voters int, askers int) impl.Group {
	return newGroupWith(3, func(g *impl.Group) {
		g.Places[place].Paxos = impl.Paxos{Voters: make([]impl.Voter, voters), Askers: make([]impl.Asker, askers)}
	})
}

func TestPromise17GroupsOfSoMany(t *testing.T) {
	for what, g := range map[string]impl.Group{
		"nothing at all":      {},
		"no ops":              newGroup(nil, 3),
		"no ops, a list":      newGroup([]impl.Op{}, 3),
		"ten ops":             newGroup(append(nineOps(), nineOps()[0]), 3),
		"a million ops":       newGroup(slices.Repeat(nineOps()[:1], 1000000), 3),
		"no replicas":         newGroup(nineOps(), 0),
		"none but voters":     newGroupWith(1, func(g *impl.Group) { g.Replicas = nil }),
		"six replicas":        newGroup(nineOps(), 6),
		"six, five voters":    newGroupWith(5, func(g *impl.Group) { g.Replicas = append(g.Replicas, g.Replicas[0]) }),
		"a million replicas":  newGroupWith(5, func(g *impl.Group) { g.Replicas = slices.Repeat(g.Replicas[:1], 1000000) }),
		"one replica less":    newGroupWith(3, func(g *impl.Group) { g.Replicas = g.Replicas[:2] }),
		"one replica more":    newGroupWith(3, func(g *impl.Group) { g.Replicas = append(g.Replicas, g.Replicas[0]) }),
		"no places":           morePlaces(0),
		"11 places":           morePlaces(11),
		"13 places":           morePlaces(13),
		"a million places":    morePlaces(1000000),
		"11 places, Known 12": newGroupWith(3, func(g *impl.Group) { g.Places = g.Places[:11] }),
		"13 places, Known 12": newGroupWith(3, func(g *impl.Group) { g.Places = append(g.Places, g.Places[0]) }),
	} {
		wantBrokenGroup(t, what, g)
	}
	for _, place := range []int{0, 5, 11} {
		for voters := range 7 {
			for askers := range 5 {
				good := wantAsGroupRulesSay(t, fmt.Sprint(voters, " and ", askers), otherGathering(place, voters, askers))
				if good != (voters == 3 && askers == 3) {
					t.Errorf("of %d voters and %d askers the rules say %v", voters, askers, good)
				}
			}
		}
	}
}

func TestPromise17GroupsOfWhatIsNotGood(t *testing.T) {
	for what, o := range badOps() {
		for _, k := range []int{0, 4, 8} {
			wantBrokenGroup(t, "an op: "+what, groupWith(func(g *impl.Group) { g.Ops[k] = o }))
		}
	}
	for k, broken := range allBroken() {
		for what, p := range broken {
			wantBrokenGroup(t, "a paxos: "+what, placeWith([]int{0, 11, 10, 7, 2}[k], p))
		}
	}
	for what, b := range brokenBases() {
		wantBrokenGroup(t, "a Base: "+what, baseOfWith(0, b, impl.Base{}))
		wantBrokenGroup(t, "a Saved one: "+what, baseOfWith(4, impl.Base{}, b))
	}
	all := busyGroup()
	for k := range all.Places {
		all.Places[k].Paxos.Notes = []impl.Note{{}}
	}
	wantBrokenGroup(t, "each paxos", all)
}

func TestPromise17Known(t *testing.T) {
	for _, many := range []int{0, 1, 11, 13, 1000000} {
		for _, replica := range []int{0, 2, 4} {
			known := append(busyGroup().Replicas[replica].Known, make([]string, many)...)[:many]
			wantBrokenGroup(t, fmt.Sprint("Known of ", many), groupWith(func(g *impl.Group) { g.Replicas[replica].Known = known }))
		}
	}
	wantBrokenGroup(t, "no Known", groupWith(func(g *impl.Group) { g.Replicas[4].Known = nil }))
	wantBrokenGroup(t, "chosen at another place alone", knownWith(1, 0, "8"))
	wantBrokenGroup(t, "chosen one place ahead", knownWith(1, 2, "0"))
	wantBrokenGroup(t, "chosen nowhere", knownWith(1, 0, "6"))
	wantBrokenGroup(t, "asked for alone", knownWith(1, 2, "1"))
	wantBrokenGroup(t, "at a place of nothing", knownWith(4, 10, "3"))
	wantBrokenGroup(t, "chosen, no digit", knownWith(1, 4, "x"))
	wantBrokenGroup(t, "chosen, no op's digit", knownWith(1, 5, "9"))
	wantBrokenGroup(t, "chosen first, no digit", knownWith(3, 7, "x"))
	wantBrokenGroup(t, "a million bytes", knownWith(3, 0, strings.Repeat("3", 1000000)))
	for _, value := range []string{"00", "01", "1 ", " 1", "+1", "-1", "-0", "1.", "/", ":", "\x00", "\x01", "1\x00", "\xb1", "a", "A", "0x1", "10", "12345678"} {
		g := placeWith(0, choosing(5, "1", value))
		g.Replicas[1].Known[0] = value
		wantBrokenGroup(t, fmt.Sprintf("chosen is %q", value), g)
		g.Replicas[1].Known[0] = "1"
		if !wantAsGroupRulesSay(t, fmt.Sprintf("chosen is %q, too", value), g) {
			t.Errorf("%q beside a digit breaks a rule", value)
		}
	}
}

// The digits that may be known go as far as there are ops.
func TestPromise17KnownBesideSoManyOps(t *testing.T) {
	for ops := 1; ops <= 9; ops++ {
		for digit := range 10 {
			g := newGroup(nineOps()[:ops], 4)
			g.Places[11].Paxos = choosing(4, fmt.Sprint(digit))
			wantAsGroupRulesSay(t, "nothing known", g)
			g.Replicas[3].Known[11] = fmt.Sprint(digit)
			if good := wantAsGroupRulesSay(t, "a digit", g); good != (digit < ops) {
				t.Errorf("of %d ops the rules say %v to %d", ops, good, digit)
			}
		}
	}
}

// disturbGroup changes a little in a group, which is good then, or not.
func (d *dice) disturbGroup(g *impl.Group) {
	place, replica := d.below(12), d.below(len(g.Replicas))
	r := &g.Replicas[replica]
	switch d.below(9) {
	case 0, 1:
		r.Known[place] = []string{"", "0", "3", "4", "8", "9", "x"}[d.below(7)]
	case 2:
		r.Base = d.disturbBase(r.Base)
	case 3:
		r.Saved = d.disturbBase(r.Saved)
	case 4:
		g.Places[place].Paxos = choosing(5, d.pick("0348x"), d.pick("0348x"))
	case 5:
		p := slices.Clone(g.Places[place].Paxos.Votes)
		if len(p) > 0 {
			p[d.below(len(p))] = vote(d.below(6), d.below(5), d.pick("0348x"))
			g.Places[place].Paxos.Votes = p
		}
	case 6:
		k := d.below(len(g.Ops))
		g.Ops[k] = []impl.Op{g.Ops[k], {}, delOp(1, 1, 1), delOp(1, d.below(2), 101-d.below(2))}[d.below(4)]
	case 7:
		g.Ops = g.Ops[:max(1, len(g.Ops)-d.below(2))]
	case 8:
		g.Places[place].Paxos.Voters = g.Places[place].Paxos.Voters[:5-d.below(6)/5]
	}
}

func TestPromise17DisturbedGroups(t *testing.T) {
	d := &dice{state: 171}
	good := 0
	for range 2500 {
		g := busyGroup()
		for range 1 + d.below(2) {
			d.disturbGroup(&g)
		}
		if wantAsGroupRulesSay(t, "disturbed", g) {
			good++
			wantGroupStep(t, "disturbed", g, learnAt(d.below(12), d.below(5)))
		}
	}
	if good < 400 || good > 2100 {
		t.Errorf("%d are good: that tells little", good)
	}
}
