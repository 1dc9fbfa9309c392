package tests

import (
	"fmt"
	"maps"
	"slices"
	"strings"
	"testing"

	"loop.example/g00274/impl"
)

func copiesPiece(l []impl.Copy) piece {
	return pieceOf(l, impl.Copy{Weight: 77, Version: 78, Text: "spoilt"}, func(c impl.Copy) any { return c })
}

func TestPromise19VotingsOfAnyNumbers(t *testing.T) {
	d := &dice{state: 146}
	numbers := append(anyNumbers(), 6, 1<<62, -1<<62)
	number := func() int { return numbers[d.below(len(numbers))] }
	for range 4000 {
		var v impl.Voting
		for range d.below(9) {
			v.Copies = append(v.Copies, impl.Copy{Weight: number(), Version: number(), Text: d.textOf("a\xff", d.below(15))})
		}
		v.Read, v.Write = number(), number()
		wantAsVotingRulesSay(t, "any numbers", v)
	}
	for _, n := range numbers {
		for _, many := range []int{0, 1, 7, 8, 100000} {
			c := impl.Copy{Weight: n, Version: n, Text: "a"}
			wantAsVotingRulesSay(t, "all one number", impl.Voting{Copies: slices.Repeat([]impl.Copy{c}, many), Read: n, Write: n})
			wantAsVotingRulesSay(t, "all zero but for shares", impl.Voting{Copies: make([]impl.Copy, many), Read: n, Write: n})
		}
	}
}

// Weights that only as a rune, or cut to fewer bits, are as those of a voting are none.
func TestPromise19WeightsThatAreNoRunes(t *testing.T) {
	for _, n := range []int{1<<32 + 1, 1<<33 + 10, -1<<32 + 5, 1<<8 + 3, 1<<16 + 2, 128, 0xd800, 0xfffd, 0x10ffff, 0x110000, 1<<31 - 1, 1 << 31, least + 5} {
		wantNoNewVoting(t, []int{n}, 1, 1)
		wantNoNewVoting(t, []int{n}, n, n)
		wantNoNewVoting(t, []int{2, n, 3}, 5, 5)
		wantAsVotingRulesSay(t, "no rune", impl.Voting{Copies: []impl.Copy{{Weight: 2}, {Weight: n}}, Read: 2, Write: 2})
	}
}

func TestPromise19AnyListAsSomeCopies(t *testing.T) {
	d := &dice{state: 147}
	numbers := append(anyNumbers(), 6, -5)
	v := writtenVoting()
	weights := []int{1, 2, 3, 4, 2, 1}
	rising := 0
	for range 4000 {
		var some, others []int
		for range d.below(4) {
			some = append(some, []int{numbers[d.below(len(numbers))], d.below(7), d.below(6)}[d.below(3)])
		}
		for range d.below(3) {
			others = append(others, d.below(7)-d.below(2))
		}
		if oracleRises(some, 6) {
			rising++
			if n, ok := impl.WeightIn(v, some); n != oracleTogether(v, some) || !ok {
				t.Errorf("WeightIn(%v) is %d %v", some, n, ok)
			}
		} else {
			wantNotWeighed(t, "any list", v, some)
		}
		if oracleRises(some, 6) && oracleRises(others, 6) {
			wantMeet(t, some, others, weights, slices.ContainsFunc(some, func(k int) bool { return slices.Contains(others, k) }))
		} else {
			wantNoMeeting(t, "any lists", some, others, weights)
		}
	}
	if rising < 400 {
		t.Errorf("only %d rise", rising)
	}
	for _, n := range numbers {
		wantNotWeighed(t, "so often", v, slices.Repeat([]int{n}, 1000))
	}
	wantNotWeighed(t, "a million that rise", v, numbersBelow(1000000))
	wantNoMeeting(t, "a million that rise", numbersBelow(1000000), []int{0}, weights)
}

func TestPromise19AnyTextIsWritten(t *testing.T) {
	v := writtenVoting()
	for c := range 256 {
		one := string([]byte{byte(c)})
		for _, text := range []string{one, "a" + one, one + one, strings.Repeat(one, 12)} {
			wantWritten(t, v, []int{1, 3, 4}, text)
		}
		wantNotWritten(t, "too long", v, []int{1, 3, 4}, strings.Repeat(one, 13))
	}
}

// votingArgs are the arguments of all functions of the chapter.
type votingArgs struct {
	voting  impl.Voting
	some    []int
	others  []int
	weights []int
	text    string
}

// votingAnswer holds the copies that a function of the chapter answers, and tells the rest.
type votingAnswer struct {
	copies []impl.Copy
	told   string
}

func (a votingAnswer) tell() string {
	return fmt.Sprintf("%v %s", a.copies, a.told)
}

func votingTold(v impl.Voting, more ...any) votingAnswer {
	return votingAnswer{copies: v.Copies, told: fmt.Sprint(v.Read, v.Write, more)}
}

func (a votingArgs) pieces() []piece {
	return []piece{copiesPiece(a.voting.Copies), numbersPiece(a.some), numbersPiece(a.others), numbersPiece(a.weights)}
}

// behind is the same in new memory, in which more lies behind each length.
func (a votingArgs) behind() votingArgs {
	longer := func(l []int) []int {
		return slices.Concat(l, []int{len(l), 5, 6, -5})[:len(l)]
	}
	copies := slices.Concat(a.voting.Copies, []impl.Copy{{Weight: 9, Version: 900, Text: "behind"}, {Weight: 1}, {Weight: -5}})
	return votingArgs{
		voting:  impl.Voting{Copies: copies[:len(a.voting.Copies)], Read: a.voting.Read, Write: a.voting.Write},
		some:    longer(a.some),
		others:  longer(a.others),
		weights: longer(a.weights),
		text:    a.text,
	}
}

func votingCalls() map[string]func(votingArgs) votingAnswer {
	return map[string]func(votingArgs) votingAnswer{
		"NewVoting": func(a votingArgs) votingAnswer {
			v, ok := impl.NewVoting(a.weights, a.voting.Read, a.voting.Write)
			return votingTold(v, ok)
		},
		"GoodVoting": func(a votingArgs) votingAnswer {
			return votingAnswer{told: fmt.Sprint(impl.GoodVoting(a.voting))}
		},
		"WeightIn": func(a votingArgs) votingAnswer {
			n, ok := impl.WeightIn(a.voting, a.some)
			return votingAnswer{told: fmt.Sprint(n, ok)}
		},
		"WriteText": func(a votingArgs) votingAnswer {
			v, ok := impl.WriteText(a.voting, a.some, a.text)
			return votingTold(v, ok)
		},
		"ReadText": func(a votingArgs) votingAnswer {
			s, version, ok := impl.ReadText(a.voting, a.some)
			return votingAnswer{told: fmt.Sprintf("%q %d %v", s, version, ok)}
		},
		"RepairCopies": func(a votingArgs) votingAnswer {
			v, changed, ok := impl.RepairCopies(a.voting, a.some)
			return votingTold(v, changed, ok)
		},
		"AlwaysMeet": func(a votingArgs) votingAnswer {
			meet, ok := impl.AlwaysMeet(a.some, a.others, a.weights)
			return votingAnswer{told: fmt.Sprint(meet, ok)}
		},
		"NewestOf": func(a votingArgs) votingAnswer {
			version, weight, ok := impl.NewestOf(a.voting)
			return votingAnswer{told: fmt.Sprint(version, weight, ok)}
		},
	}
}

// someVotings are good ones, and such as break a rule, each small enough to be told often.
func someVotings() []impl.Voting {
	all := []impl.Voting{writtenVoting(), fiveCopies().voting(), versionsAs(999999), versionsAs(1000000), chronicleOf(1, 1, 1).voting(),
		chronicleOf(35, 36, 10, 10, 10, 10, 10, 10, 10).written("a", 0, 1, 2, 3).written("b", 3, 4, 5, 6).voting()}
	for _, broken := range []map[string]impl.Voting{brokenCopies(), brokenShares()} {
		for _, what := range slices.Sorted(maps.Keys(broken)) {
			if !strings.Contains(what, "a million") {
				all = append(all, broken[what])
			}
		}
	}
	return all
}

// someVotingArgs puts votings together with some copies that are enough, too few or none, with weights and with texts.
func someVotingArgs() []votingArgs {
	lists := [][]int{nil, {0}, {0, 1}, {2, 3, 4}, {1, 2, 3, 4}, {0, 1, 2, 3, 4, 5}, {0, 1, 2, 3, 4}, {0, 1, 2, 3}, {1, 0}, {2, 2}, {-1, 0}, {0, 7}, {least, greatest}}
	weights := [][]int{nil, {1}, {1, 2, 3, 4, 2, 1}, {10, 10, 10, 10, 10, 10, 10}, {3, 1, 2, 1, 3}, {0, 11}, {1, 1, 1, 1, 1, 1, 1, 1}, {least, greatest, -1}}
	texts := []string{"", "x", strings.Repeat("a", 12), strings.Repeat("a", 13), "\xff\x00"}
	var all []votingArgs
	for n, v := range someVotings() {
		for k, some := range lists {
			all = append(all, votingArgs{v, some, lists[(n+k*5)%len(lists)], weights[(n+k)%len(weights)], texts[(n+k*2)%len(texts)]})
			all = append(all, votingArgs{v, some, lists[(n+k*3)%len(lists)], weights[2+n%3], "x"})
		}
	}
	return all
}

func TestPromise19VotingsStayAsTheyWere(t *testing.T) {
	for _, a := range someVotingArgs() {
		arg := a.behind()
		before := tellPieces(arg.pieces())
		for name, call := range votingCalls() {
			got, want := call(arg), call(a)
			if got.tell() != want.tell() {
				t.Errorf("%s reads what lies behind a length: %s, not %s", name, got.tell(), want.tell())
			}
			wantEmptyBehind(t, name, got.copies)
			copiesPiece(got.copies).spoil()
			if !slices.Equal(tellPieces(arg.pieces()), before) {
				t.Fatalf("%s writes into an argument, or it changed with an answer: %v", name, a)
			}
		}
	}
}

func TestPromise19VotingAnswersShareNothing(t *testing.T) {
	for _, a := range someVotingArgs() {
		arg := a.behind()
		pieces := arg.pieces()
		for range 2 {
			for _, call := range votingCalls() {
				pieces = append(pieces, copiesPiece(call(arg).copies))
			}
		}
		wantApart(t, fmt.Sprintf("some are %v", a.some), pieces)
	}
}

// A repair that changes nothing answers new memory, too.
func TestPromise19RepairsOfNothingShareNothing(t *testing.T) {
	v := writtenVoting()
	got, changed, ok := impl.RepairCopies(v, []int{2, 3, 4})
	wantVoting(t, "RepairCopies", got, ok, writtenVoting())
	if changed != 0 {
		t.Errorf("%d are changed", changed)
	}
	wantApart(t, "nothing is repaired", []piece{copiesPiece(v.Copies), copiesPiece(got.Copies)})
}

// An answer stays as it was, whatever is done to the arguments later; so does what is answered next.
func TestPromise19VotingAnswersOfLaterChangedArguments(t *testing.T) {
	for _, a := range someVotingArgs() {
		for name, call := range votingCalls() {
			arg := a.behind()
			got := call(arg)
			before := got.tell()
			for _, p := range arg.pieces() {
				p.spoil()
			}
			if again := call(a); got.tell() != before || again.tell() != before {
				t.Errorf("%s of %v changed with an argument: %s, not %s", name, a, got.tell(), before)
			}
		}
	}
}

// Lists that share memory in the arguments share none with an answer.
func TestPromise19ListsOfSharedMemory(t *testing.T) {
	list := []int{1, 2, 3, 4, 5}
	wantMeet(t, list, list, []int{9, 9, 9, 9, 9, 9}, true)
	wantMeet(t, list[:2], list[2:], []int{9, 9, 9, 9, 9, 9}, false)
	wantMeet(t, list[:3], list[2:], []int{9, 9, 9, 9, 9, 9}, true)
	wantNoMeeting(t, "one list as all", list, list, list)
	wantMeet(t, list[:4], list[:3], slices.Repeat(list, 2)[:6], true)
	if !slices.Equal(list, []int{1, 2, 3, 4, 5}) {
		t.Errorf("the list is %v", list)
	}
}

// Nothing is kept from call to call.
func TestPromise19VotingsAnswerTheSameAgain(t *testing.T) {
	d := &dice{state: 148}
	args := func() votingArgs {
		c := d.chronicle()
		c = c.written("a", d.enough(c, c.write)...)
		return votingArgs{c.voting(), d.enough(c, c.write), d.enough(c, c.read), c.weights, d.textOf("ab", d.below(13))}
	}
	for range 200 {
		a, other := args(), args()
		first := map[string]string{}
		for name, call := range votingCalls() {
			first[name] = call(a).tell()
		}
		for _, call := range votingCalls() {
			call(other)
		}
		for name, call := range votingCalls() {
			if again := call(a).tell(); again != first[name] {
				t.Errorf("%s of %v is %s, not %s", name, a, again, first[name])
			}
		}
	}
}
