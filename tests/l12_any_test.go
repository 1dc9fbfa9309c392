package tests

import (
	"fmt"
	"slices"
	"strings"
	"testing"

	"loop.example/g00274/impl"
)

func TestPromise19AnyTextHasEndings(t *testing.T) {
	for c := range 256 {
		one := string([]byte{byte(c)})
		for _, many := range []int{1, 2, 119, 120} {
			s := strings.Repeat(one, many)
			wantSuffixes(t, s, oracleEndings(s))
			wantTwice(t, s, s[1:])
			wantDistinct(t, s, many)
			wantFoundIn(t, s, one)
			wantFoundIn(t, s, s)
			wantRanks(t, s, 1, 0, make([]int, many))
		}
		for _, many := range []int{121, 1000000} {
			s := strings.Repeat(one, many)
			wantTooLong(t, s, nil)
			wantTooLong(t, s, []int{least, 0, greatest})
			wantNotFoundBy(t, "a long one is searched", "a", []int{0}, s)
		}
	}
}

func TestPromise19AnyListAsEndings(t *testing.T) {
	d := &dice{state: 125}
	numbers := anyNumbers()
	for range 4000 {
		s := d.textOf("ab\xff", d.below(4))
		var l []int
		for range d.below(5) {
			l = append(l, numbers[d.below(len(numbers))])
		}
		if slices.Equal(l, oracleEndings(s)) {
			wantSuffixes(t, s, l)
		} else {
			wantNoSuffixes(t, "any list", s, l)
		}
	}
	for _, s := range []string{"", "a", "banana", fibonacciText(120)} {
		for _, n := range numbers {
			wantNoSuffixes(t, "so often", s, slices.Repeat([]int{n}, 121))
		}
		wantNoSuffixes(t, "a million places", s, make([]int, 1000000))
	}
}

func TestPromise19AnyNumberAsRanks(t *testing.T) {
	numbers := append(anyNumbers(), 119, 120, 121, -120)
	for _, s := range []string{"", "a", "banana", fibonacciText(120), strings.Repeat("a", 121)} {
		for _, k := range numbers {
			for _, doubled := range numbers {
				if len(s) <= 120 && k >= 1 && k <= 120 && (doubled == 0 || doubled == 1) {
					wantRanks(t, s, k, doubled, oracleRanks(s, k*(1+doubled)))
				} else {
					wantNoRanks(t, s, k, doubled)
				}
			}
		}
	}
}

// endingArgs are the arguments of all functions of the chapter.
type endingArgs struct {
	text     string
	list     []int
	searched string
	k        int
	doubled  int
}

// endingAnswer holds the list that a function of the chapter answers, and tells the rest.
type endingAnswer struct {
	list []int
	told string
}

func (a endingAnswer) tell() string {
	return fmt.Sprintf("%v %s", a.list, a.told)
}

func numbersPiece(l []int) piece {
	return pieceOf(l, 77, func(n int) any { return n })
}

func endingCalls() map[string]func(endingArgs) endingAnswer {
	return map[string]func(endingArgs) endingAnswer{
		"SuffixesOf": func(a endingArgs) endingAnswer {
			l, ok := impl.SuffixesOf(a.text)
			return endingAnswer{list: l, told: fmt.Sprint(ok)}
		},
		"CommonOf": func(a endingArgs) endingAnswer {
			l, ok := impl.CommonOf(a.text, a.list)
			return endingAnswer{list: l, told: fmt.Sprint(ok)}
		},
		"IsSuffixes": func(a endingArgs) endingAnswer {
			is, ok := impl.IsSuffixes(a.text, a.list)
			return endingAnswer{told: fmt.Sprint(is, ok)}
		},
		"FindIn": func(a endingArgs) endingAnswer {
			l, held, ok := impl.FindIn(a.text, a.list, a.searched)
			return endingAnswer{list: l, told: fmt.Sprint(held, ok)}
		},
		"LongestTwice": func(a endingArgs) endingAnswer {
			s, ok := impl.LongestTwice(a.text)
			return endingAnswer{told: fmt.Sprintf("%q %v", s, ok)}
		},
		"DistinctIn": func(a endingArgs) endingAnswer {
			n, ok := impl.DistinctIn(a.text)
			return endingAnswer{told: fmt.Sprint(n, ok)}
		},
		"RankOf": func(a endingArgs) endingAnswer {
			l, ok := impl.RankOf(a.text, a.k, a.doubled)
			return endingAnswer{list: l, told: fmt.Sprint(ok)}
		},
	}
}

// behind is the same with the list in new memory, in which more lies behind its length.
func (a endingArgs) behind() endingArgs {
	a.list = slices.Concat(a.list, []int{len(a.list), 0, -5, greatest})[:len(a.list)]
	return a
}

// endingsArgs puts texts together with lists that are right, lists that are not, texts that are searched, and numbers.
func endingsArgs() []endingArgs {
	var all []endingArgs
	for n, s := range append(someTexts(), strings.Repeat("a", 121), fibonacciText(200)) {
		right := oracleEndings(s)
		lists := [][]int{right, right, nil, append(slices.Clone(right), 0), append(slices.Clone(right), len(right)), {0}, {-1, greatest}}
		if len(right) > 0 {
			lists = append(lists, right[1:], right[:len(right)-1])
		}
		for k, l := range lists {
			searched := []string{"a", s, "", "ab", "\xff", strings.Repeat("a", 120), "nowhere"}[(n+k)%7]
			all = append(all, endingArgs{s, l, searched, []int{1, 2, 120, 0, 60, 121}[(n+k)%6], []int{0, 1, 0, 1, 2, -1}[(n+k*2)%6]})
			all = append(all, endingArgs{s, l, "a", 1 + k, k % 2})
		}
	}
	return all
}

func TestPromise19EndingsLeaveArgumentsAsTheyWere(t *testing.T) {
	for _, a := range endingsArgs() {
		arg := a.behind()
		text, searched := strings.Clone(arg.text), strings.Clone(arg.searched)
		before := numbersPiece(arg.list).tell()
		for name, call := range endingCalls() {
			got, want := call(arg), call(a)
			if got.tell() != want.tell() {
				t.Errorf("%s reads what lies behind a length: %s, not %s", name, got.tell(), want.tell())
			}
			wantEmptyBehind(t, name, got.list)
			numbersPiece(got.list).spoil()
		}
		if numbersPiece(arg.list).tell() != before || arg.text != text || arg.searched != searched {
			t.Errorf("an argument is written into, or changed with an answer: %v", a)
		}
	}
}

func TestPromise19EndingsAnswersShareNothing(t *testing.T) {
	for _, a := range endingsArgs() {
		arg := a.behind()
		pieces := []piece{numbersPiece(arg.list)}
		for range 2 {
			for _, call := range endingCalls() {
				pieces = append(pieces, numbersPiece(call(arg).list))
			}
		}
		wantApart(t, fmt.Sprintf("endings of %q", a.text), pieces)
	}
}

// An answer stays as it was, whatever is done to the arguments later; so does what is answered next.
func TestPromise19EndingsOfLaterChangedArguments(t *testing.T) {
	for _, a := range endingsArgs() {
		for name, call := range endingCalls() {
			arg := a.behind()
			got := call(arg)
			before := got.tell()
			numbersPiece(arg.list).spoil()
			if again := call(a); got.tell() != before || again.tell() != before {
				t.Errorf("%s of %v changed with an argument: %s, not %s", name, a, got.tell(), before)
			}
		}
	}
}

// Nothing is kept from call to call.
func TestPromise19EndingsAnswerTheSameAgain(t *testing.T) {
	d := &dice{state: 126}
	for range 60 {
		s := d.ending()
		a := endingArgs{s, oracleEndings(s), d.textOf("ab", 1+d.below(3)), 1 + d.below(120), d.below(2)}
		first := map[string]string{}
		for name, call := range endingCalls() {
			first[name] = call(a).tell()
		}
		other := d.ending()
		for _, call := range endingCalls() {
			call(endingArgs{other, oracleEndings(other), "a", 3, 1})
		}
		for name, call := range endingCalls() {
			if again := call(a).tell(); again != first[name] {
				t.Errorf("%s of %v is %s, not %s", name, a, again, first[name])
			}
		}
	}
}
