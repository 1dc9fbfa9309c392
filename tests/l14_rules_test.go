package tests

import (
	"slices"
	"strings"
	"testing"

	"loop.example/g00274/impl"
)

// writtenVoting has a copy with the first text, two with the second one, and three with the third one.
func writtenVoting() impl.Voting {
	c := chronicleOf(7, 8, 1, 2, 3, 4, 2, 1).written("one", 0, 1, 2, 3, 4).written("two", 0, 1, 3, 4).written("three", 2, 3, 4)
	return c.voting()
}

func votingWith(change func(v *impl.Voting)) impl.Voting {
	v := writtenVoting()
	change(&v)
	return v
}

func copyWith(k int, change func(c *impl.Copy)) impl.Voting {
	return votingWith(func(v *impl.Voting) { change(&v.Copies[k]) })
}

func sharesAs(read int, write int) impl.Voting {
	return votingWith(func(v *impl.Voting) { v.Read, v.Write = read, write })
}

func wantNoVoting(t *testing.T, what string, v impl.Voting) {
	t.Helper()
	if impl.GoodVoting(v) {
		t.Errorf("%s: it is good: %v", what, v)
	}
	if version, weight, ok := impl.NewestOf(v); version != 0 || weight != 0 || ok {
		t.Errorf("%s: NewestOf(%v) is %d %d %v", what, v, version, weight, ok)
	}
	for _, some := range [][]int{nil, {0}, {0, 1}, numbersBelow(min(len(v.Copies), 9)), {-1}, {1, 0}} {
		wantNotWeighed(t, what, v, some)
	}
}

// wantAsVotingRulesSay tells whether the rules say that a voting is good.
func wantAsVotingRulesSay(t *testing.T, what string, v impl.Voting) bool {
	t.Helper()
	good := oracleGoodVoting(v)
	if !good {
		wantNoVoting(t, what, v)
	} else if !impl.GoodVoting(v) {
		t.Errorf("%s: it is not good: %v", what, v)
	}
	return good
}

func brokenCopies() map[string]impl.Voting {
	return map[string]impl.Voting{
		"no copies":                     votingWith(func(v *impl.Voting) { v.Copies = nil }),
		"no copies, no shares":          {},
		"no copies, least shares":       {Read: 1, Write: 1},
		"a weight of 0":                 copyWith(1, func(c *impl.Copy) { c.Weight = 0 }),
		"a weight of 0 at the end":      copyWith(5, func(c *impl.Copy) { c.Weight = 0 }),
		"a weight of 11":                votingWith(func(v *impl.Voting) { v.Copies[3].Weight, v.Read, v.Write = 11, 20, 11 }),
		"a weight below 0":              copyWith(0, func(c *impl.Copy) { c.Weight = -1 }),
		"the least weight":              copyWith(5, func(c *impl.Copy) { c.Weight = least }),
		"the greatest weight":           copyWith(2, func(c *impl.Copy) { c.Weight = greatest }),
		"a version below 0":             copyWith(5, func(c *impl.Copy) { c.Version = -1 }),
		"the least version":             copyWith(5, func(c *impl.Copy) { c.Version = least }),
		"versions of just beyond":       oracleHolding(writtenVoting(), []int{2, 3, 4}, 1000001, "three"),
		"the greatest number":           oracleHolding(writtenVoting(), []int{2, 3, 4}, greatest, "three"),
		"one version of just beyond":    copyWith(3, func(c *impl.Copy) { c.Version = 1000001 }),
		"a text of 13 bytes":            copyWith(5, func(c *impl.Copy) { c.Text = strings.Repeat("a", 13) }),
		"texts of 13 bytes":             oracleHolding(writtenVoting(), []int{2, 3, 4}, 3, strings.Repeat("a", 13)),
		"a text of a million bytes":     copyWith(5, func(c *impl.Copy) { c.Text = strings.Repeat("a", 1000000) }),
		"one version, unlike texts":     copyWith(2, func(c *impl.Copy) { c.Text = "four" }),
		"one version, last text unlike": copyWith(4, func(c *impl.Copy) { c.Text = "thre" }),
		"one version, no text in one":   copyWith(3, func(c *impl.Copy) { c.Text = "" }),
		"an old version, unlike texts":  copyWith(1, func(c *impl.Copy) { c.Text = "twos" }),
		"the version 0, unlike texts":   copyWith(1, func(c *impl.Copy) { c.Version, c.Text = 0, "x" }),
		"all Version 0, as they stand":  allVersionZero(writtenVoting()),
		"one copy too many":             votingWith(func(v *impl.Voting) { v.Copies = append(v.Copies, v.Copies[2], v.Copies[3]); v.Read, v.Write = 13, 13 }),
		"a million copies":              votingWith(func(v *impl.Voting) { v.Copies = make([]impl.Copy, 1000000) }),
	}
}

func allVersionZero(v impl.Voting) impl.Voting {
	for k := range v.Copies {
		v.Copies[k].Version = 0
	}
	return v
}

func brokenShares() map[string]impl.Voting {
	return map[string]impl.Voting{
		"Read 0":                      sharesAs(0, 13),
		"Read below 0":                sharesAs(-1, 13),
		"Read beyond all":             sharesAs(14, 8),
		"Write 0":                     sharesAs(13, 0),
		"Write below 0":               sharesAs(13, -1),
		"Write beyond all":            sharesAs(7, 14),
		"both just as much as all":    sharesAs(5, 8),
		"both just as much, turned":   sharesAs(6, 7),
		"twice Write less than all":   sharesAs(13, 6),
		"Read that goes round":        sharesAs(greatest, 8),
		"Write that goes round":       sharesAs(7, 1<<62+1),
		"both that go round":          sharesAs(greatest, greatest),
		"the least numbers":           sharesAs(least, least),
		"the newest weigh Write less": sharesAs(7, 10),
		"the newest weigh one less":   copyWith(3, func(c *impl.Copy) { c.Version, c.Text = 2, "two" }),
		"one has a greater version":   copyWith(0, func(c *impl.Copy) { c.Version, c.Text = 4, "four" }),
		"the newest weigh all but one": {Copies: []impl.Copy{{Weight: 1, Version: 1, Text: "a"}, {Weight: 1, Version: 1, Text: "a"}, {Weight: 1}},
			Read: 1, Write: 3},
		"twice Write just as much as all": {Copies: []impl.Copy{{Weight: 2}, {Weight: 2}}, Read: 4, Write: 2},
	}
}

func TestPromise14VotingsThatBreakARule(t *testing.T) {
	for _, broken := range []map[string]impl.Voting{brokenCopies(), brokenShares()} {
		for what, v := range broken {
			if oracleGoodVoting(v) {
				t.Errorf("%s: it breaks no rule", what)
			}
			wantNoVoting(t, what, v)
		}
	}
}

func TestPromise14VotingsThatAreGood(t *testing.T) {
	for what, v := range map[string]impl.Voting{
		"what was written":              writtenVoting(),
		"one copy":                      chronicleOf(1, 1, 1).voting(),
		"seven copies":                  chronicleOf(35, 36, 10, 10, 10, 10, 10, 10, 10).voting(),
		"weights of 10 and 1":           chronicleOf(5, 7, 10, 1).voting(),
		"the greatest versions":         oracleHolding(writtenVoting(), []int{2, 3, 4}, 1000000, "three"),
		"versions far apart":            oracleHolding(oracleHolding(writtenVoting(), []int{2, 3, 4}, 1000000, "z"), []int{1}, 999999, "y"),
		"texts of 12 bytes":             oracleHolding(writtenVoting(), []int{2, 3, 4}, 3, strings.Repeat("a", 12)),
		"an old text of 12 bytes":       copyWith(5, func(c *impl.Copy) { c.Text = strings.Repeat("\xff", 12) }),
		"one text, unlike versions":     oracleHolding(writtenVoting(), []int{2, 3, 4}, 3, "two"),
		"least Read":                    sharesAs(6, 8),
		"just as much as the newest":    sharesAs(5, 9),
		"all read":                      sharesAs(13, 8),
		"Read and Write turned":         sharesAs(8, 7),
		"all with one version":          oracleHolding(writtenVoting(), numbersBelow(6), 77, "x"),
		"all with Version 0, a text":    oracleHolding(writtenVoting(), numbersBelow(6), 0, "x"),
		"all with Version 0, no text":   oracleHolding(writtenVoting(), numbersBelow(6), 0, ""),
		"a copy with Version 0, a text": copyWith(5, func(c *impl.Copy) { c.Text = "x" }),
	} {
		if !oracleGoodVoting(v) || !impl.GoodVoting(v) {
			t.Errorf("%s: not good: %v", what, v)
		}
		wantVotingAnswers(t, v)
	}
}

// The copies with the greatest Version may weigh just Write, and no less.
func TestPromise14TheNewestWeighWriteAtLeast(t *testing.T) {
	d := &dice{state: 144}
	for range 300 {
		c := d.chronicle()
		c = c.written("x", d.enough(c, 1+d.below(c.all()))...)
		v := c.voting()
		weight := 0
		for _, one := range v.Copies {
			weight += one.Weight * one.Version
		}
		if impl.GoodVoting(v) != (weight >= c.write) {
			t.Errorf("GoodVoting(%v), of which the newest weigh %d, is %v", v, weight, impl.GoodVoting(v))
		}
		v.Write, v.Read = weight, c.all()
		if impl.GoodVoting(v) != (2*weight > c.all()) {
			t.Errorf("GoodVoting(%v), of which the newest weigh just Write, is %v", v, impl.GoodVoting(v))
		}
	}
}

func changedCopies(v impl.Voting, k int) []impl.Voting {
	var all []impl.Voting
	with := func(c impl.Copy) {
		made := v
		made.Copies = slices.Clone(v.Copies)
		made.Copies[k] = c
		all = append(all, made)
	}
	own := v.Copies[k]
	for _, n := range anyNumbers() {
		with(impl.Copy{Weight: n, Version: own.Version, Text: own.Text})
		with(impl.Copy{Weight: own.Weight, Version: n, Text: own.Text})
		with(impl.Copy{Weight: own.Weight, Version: n, Text: "three"})
		with(impl.Copy{Weight: own.Weight, Version: n})
	}
	for _, text := range []string{"", "x", own.Text + "x", strings.Repeat("a", 12), strings.Repeat("a", 13)} {
		with(impl.Copy{Weight: own.Weight, Version: own.Version, Text: text})
	}
	return all
}

// Some changes leave a good voting: the rules tell which.
func TestPromise14OneThingChangedInAVoting(t *testing.T) {
	good, bad := 0, 0
	tell := func(what string, v impl.Voting) {
		if wantAsVotingRulesSay(t, what, v) {
			good++
		} else {
			bad++
		}
	}
	for _, v := range []impl.Voting{writtenVoting(), chronicleOf(5, 6, 3, 1, 2, 1, 3).voting(), chronicleOf(1, 2, 1, 1).written("a", 0, 1).voting()} {
		for k := range v.Copies {
			for _, changed := range changedCopies(v, k) {
				tell("a copy changed", changed)
			}
			tell("left out", impl.Voting{Copies: slices.Delete(slices.Clone(v.Copies), k, k+1), Read: v.Read, Write: v.Write})
			tell("put twice", impl.Voting{Copies: slices.Insert(slices.Clone(v.Copies), k, v.Copies[k]), Read: v.Read, Write: v.Write})
		}
		tell("turned", impl.Voting{Copies: v.Copies, Read: v.Write, Write: v.Read})
		for _, n := range append(anyNumbers(), 6, 1<<62) {
			tell("another Read", impl.Voting{Copies: v.Copies, Read: n, Write: v.Write})
			tell("another Write", impl.Voting{Copies: v.Copies, Read: v.Read, Write: n})
			tell("both others", impl.Voting{Copies: v.Copies, Read: n, Write: n})
		}
	}
	if good < 100 || bad < 1000 {
		t.Errorf("%d good and %d bad: that tells little", good, bad)
	}
}

func (d *dice) disturbVoting(v *impl.Voting) {
	c, other := &v.Copies[d.below(len(v.Copies))], v.Copies[d.below(len(v.Copies))]
	switch d.below(8) {
	case 0:
		c.Version, c.Text = other.Version, other.Text
	case 1:
		c.Version += d.below(3) - 1
	case 2:
		c.Text = other.Text
	case 3:
		c.Weight = d.below(12)
	case 4:
		v.Read += d.below(5) - 2
	case 5:
		v.Write += d.below(5) - 2
	case 6:
		v.Copies = append(v.Copies, other)
	case 7:
		v.Copies = v.Copies[:len(v.Copies)-d.below(2)]
	}
}

func TestPromise14GoodVotingAgainstTheRules(t *testing.T) {
	d := &dice{state: 145}
	good, bad := 0, 0
	for range 3000 {
		c := d.chronicle()
		for range d.below(4) {
			c = c.written(d.textOf("ab", d.below(3)), d.enough(c, c.write)...)
		}
		v := c.voting()
		for range 1 + d.below(3) {
			if len(v.Copies) > 0 {
				d.disturbVoting(&v)
			}
		}
		if wantAsVotingRulesSay(t, "disturbed", v) {
			good++
		} else {
			bad++
		}
		if good%10 == 1 && oracleGoodVoting(v) {
			wantVotingAnswers(t, v)
		}
	}
	if good < 400 || bad < 1000 {
		t.Errorf("%d good and %d bad: that tells little", good, bad)
	}
}
