package tests

import (
	"slices"
	"testing"

	"loop.example/g00274/impl"
)

func votesOf(voters int, votes ...impl.Vote) impl.Paxos {
	return impl.Paxos{Voters: make([]impl.Voter, voters), Askers: make([]impl.Asker, 1), Votes: votes}
}

func vote(voter int, ballot int, value string) impl.Vote {
	return impl.Vote{Voter: voter, Ballot: ballot, Value: value}
}

func TestPromise15ChosenIn(t *testing.T) {
	wantChosen(t, "no votes", votesOf(1))
	wantChosen(t, "no votes", votesOf(5))
	wantChosen(t, "one of one", votesOf(1, vote(0, 3, "a")), "a")
	wantChosen(t, "one of two", votesOf(2, vote(1, 3, "a")))
	wantChosen(t, "two of two", votesOf(2, vote(1, 3, "a"), vote(0, 3, "a")), "a")
	wantChosen(t, "two of three", votesOf(3, vote(2, 3, "a"), vote(0, 3, "a")), "a")
	wantChosen(t, "two of four", votesOf(4, vote(2, 3, "a"), vote(0, 3, "a")))
	wantChosen(t, "three of four", votesOf(4, vote(2, 3, "a"), vote(0, 3, "a"), vote(3, 3, "a")), "a")
	wantChosen(t, "two of five", votesOf(5, vote(2, 3, "a"), vote(0, 3, "a")))
	wantChosen(t, "three of five", votesOf(5, vote(4, 3, "a"), vote(0, 3, "a"), vote(1, 3, "a")), "a")
	wantChosen(t, "all of five", votesOf(5, vote(4, 3, "a"), vote(0, 3, "a"), vote(1, 3, "a"), vote(2, 3, "a"), vote(3, 3, "a")), "a")
}

// What voters have promised, and what they voted for last, does not count: the votes do.
func TestPromise15ChosenInAsksVotesAlone(t *testing.T) {
	p := votesOf(3)
	for k := range p.Voters {
		p.Voters[k] = impl.Voter{Promised: 3, Ballot: 3, Value: "a"}
	}
	wantChosen(t, "voters without votes", p)
	p.Votes = []impl.Vote{vote(0, 3, "b"), vote(1, 3, "b")}
	wantChosen(t, "voters with other votes", p, "b")
}

func TestPromise15ChosenInOneVoterVotesTwice(t *testing.T) {
	wantChosen(t, "twice", votesOf(3, vote(1, 3, "a"), vote(1, 3, "a")))
	wantChosen(t, "so often", votesOf(5, slices.Repeat([]impl.Vote{vote(1, 3, "a"), vote(4, 3, "a")}, 400)...))
	wantChosen(t, "twice, and another one", votesOf(3, vote(1, 3, "a"), vote(1, 3, "a"), vote(2, 3, "a")), "a")
	wantChosen(t, "twice, one of one", votesOf(1, vote(0, 3, "a"), vote(0, 3, "a")), "a")
}

func TestPromise15ChosenInUnlikeBallots(t *testing.T) {
	wantChosen(t, "one each", votesOf(3, vote(0, 3, "a"), vote(1, 4, "a"), vote(2, 5, "a")))
	wantChosen(t, "one each, and one", votesOf(3, vote(0, 3, "a"), vote(1, 4, "a"), vote(2, 5, "a"), vote(0, 5, "a")), "a")
	wantChosen(t, "two each", votesOf(5, vote(0, 3, "a"), vote(1, 3, "a"), vote(1, 6, "a"), vote(2, 6, "a")))
	wantChosen(t, "the least and the greatest", votesOf(2, vote(0, 1, "a"), vote(1, 10000, "a")))
	wantChosen(t, "the greatest", votesOf(2, vote(0, 10000, "a"), vote(1, 10000, "a")), "a")
}

func TestPromise15ChosenInOneBallotWithTwoValues(t *testing.T) {
	wantChosen(t, "one each", votesOf(3, vote(0, 3, "a"), vote(1, 3, "b")))
	wantChosen(t, "one each, of one voter", votesOf(3, vote(0, 3, "a"), vote(0, 3, "b")))
	wantChosen(t, "two for one", votesOf(3, vote(0, 3, "a"), vote(1, 3, "b"), vote(2, 3, "b")), "b")
	wantChosen(t, "two for each", votesOf(3, vote(0, 3, "a"), vote(1, 3, "b"), vote(2, 3, "b"), vote(1, 3, "a")), "b", "a")
	wantChosen(t, "values that begin alike", votesOf(2, vote(0, 3, "a"), vote(1, 3, "aa"), vote(0, 3, "aa"), vote(1, 3, "A")), "aa")
}

func TestPromise15ChosenInSeveralValues(t *testing.T) {
	wantChosen(t, "in order", votesOf(1, vote(0, 3, "b"), vote(0, 4, "a"), vote(0, 5, "c"), vote(0, 6, "a"), vote(0, 3, "b")), "b", "a", "c")
	wantChosen(t, "a lesser ballot later", votesOf(1, vote(0, 9, "b"), vote(0, 4, "a")), "b", "a")
	wantChosen(t, "begun first, chosen last", votesOf(3, vote(0, 3, "a"), vote(0, 4, "b"), vote(1, 4, "b"), vote(1, 3, "a"), vote(2, 4, "b")), "b", "a")
	wantChosen(t, "each once", votesOf(3, vote(0, 3, "a"), vote(1, 3, "a"), vote(2, 3, "a"), vote(0, 6, "a"), vote(1, 6, "a"), vote(0, 7, "b"), vote(2, 7, "b"), vote(2, 6, "a")), "a", "b")
}

func TestPromise15ChosenInOfAThousandVotes(t *testing.T) {
	var votes []impl.Vote
	for k := range 1000 {
		votes = append(votes, vote(0, 1+k, []string{"a", "b"}[k%2]))
	}
	wantChosen(t, "one of two", votesOf(2, votes...))
	wantChosen(t, "one of one", votesOf(1, votes...), "a", "b")
	votes[999] = vote(1, 999, "a")
	wantChosen(t, "two of two at the end", votesOf(2, votes...), "a")
	wantNotGoodPaxos(t, "one vote too many", votesOf(1, append(votes, vote(0, 1, "a"))...))
}

func TestPromise15ChosenInAgainstEachVote(t *testing.T) {
	d := &dice{state: 153}
	many := map[int]int{}
	for range 6000 {
		voters := 1 + d.below(5)
		p := votesOf(voters)
		for range d.below(30) {
			p.Votes = append(p.Votes, vote(d.below(voters), 1+d.below(3), d.pick("abcd")))
		}
		want := oracleChosen(p)
		many[len(want)]++
		wantChosen(t, "drawn", p, want...)
	}
	for n := range 5 {
		if many[n] < 200 {
			t.Errorf("%d chosen only %d times: that tells little", n, many[n])
		}
	}
}
