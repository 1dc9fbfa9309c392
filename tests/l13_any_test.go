package tests

import (
	"fmt"
	"slices"
	"strings"
	"testing"

	"loop.example/g00274/impl"
)

func edgesPiece(l []impl.Edge) piece {
	return pieceOf(l, impl.Edge{Text: "spoilt", Up: 77}, func(e impl.Edge) any { return e })
}

func TestPromise19EdgesOfAnyUp(t *testing.T) {
	numbers := append(anyNumbers(), 6, -3, 39, 40, 41, 79, 80, 81, -1<<32)
	for k, e := range fourNames() {
		for _, up := range numbers {
			for _, name := range []bool{false, true} {
				wantAsRadixRulesSay(t, "any Up", impl.Radix{Edges: edgesWith(k, edge(e.Text, name, up))})
			}
		}
	}
	for _, up := range numbers {
		for _, many := range []int{1, 2, 40, 41, 80, 81, 1000} {
			wantAsRadixRulesSay(t, "all of one Up", impl.Radix{Edges: slices.Repeat([]impl.Edge{edge("", false, up)}, many)})
			wantAsRadixRulesSay(t, "all of one Up, a root ahead", impl.Radix{Edges: append([]impl.Edge{edge("", false, -1)}, slices.Repeat([]impl.Edge{edge("a", true, up)}, many)...)})
		}
	}
}

func TestPromise19RingsOfEdges(t *testing.T) {
	for _, many := range []int{1, 2, 3, 40, 80, 81, 1000} {
		ring, back, own := make([]impl.Edge, many), make([]impl.Edge, many), make([]impl.Edge, many)
		for k := range many {
			ring[k] = edge("a", true, (k+1)%many)
			back[k] = edge("a", true, (k+many-1)%many)
			own[k] = edge("a", true, k)
		}
		for _, edges := range [][]impl.Edge{ring, back, own, make([]impl.Edge, many)} {
			wantNoRadix(t, "a ring", impl.Radix{Edges: edges})
			edges[0] = edge("", false, -1)
			wantAsRadixRulesSay(t, "a ring behind a root", impl.Radix{Edges: edges})
		}
	}
}

func TestPromise19EdgesOfManyAndOfLongTexts(t *testing.T) {
	root := edge("", false, -1)
	for _, e := range []impl.Edge{edge("a", true, 0), edge("a", false, 0), edge("", true, 0), edge("", false, 0), root, {}} {
		wantNoRadix(t, "a hundred thousand", impl.Radix{Edges: append([]impl.Edge{root}, slices.Repeat([]impl.Edge{e}, 100000)...)})
	}
	deep := []impl.Edge{root}
	for k := range 100000 {
		deep = append(deep, edge("", false, k))
	}
	wantNoRadix(t, "a hundred thousand below one another", impl.Radix{Edges: deep})
	wantNoRadix(t, "a chain that is too long", impl.Radix{Edges: chainEdges(100000)})
	million := strings.Repeat("a", 1000000)
	for _, edges := range [][]impl.Edge{
		{edge(million, false, -1)},
		{root, edge(million, false, 0), edge(million, false, 1), edge(million, true, 2)},
		{root, edge("b", true, 0), edge(million, true, 1)},
	} {
		wantNoRadix(t, "a million bytes", impl.Radix{Edges: edges})
	}
}

func TestPromise19EdgesOfAnyText(t *testing.T) {
	for c := range 256 {
		one := string([]byte{byte(c)})
		for k, e := range fourNames() {
			wantAsRadixRulesSay(t, "any byte alone", impl.Radix{Edges: edgesWith(k, edge(one, e.Name, e.Up))})
			wantAsRadixRulesSay(t, "any byte behind", impl.Radix{Edges: edgesWith(k, edge(e.Text+one, e.Name, e.Up))})
			wantAsRadixRulesSay(t, "any byte ahead", impl.Radix{Edges: edgesWith(k, edge(one+e.Text, e.Name, e.Up))})
		}
	}
}

func TestPromise19AnyEdges(t *testing.T) {
	d := &dice{state: 138}
	numbers := anyNumbers()
	good := 0
	for range 4000 {
		edges := []impl.Edge{edge("", false, -1)}
		for range d.below(5) {
			up := d.below(len(edges))
			if d.below(6) == 0 {
				up = numbers[d.below(len(numbers))]
			}
			edges = append(edges, edge(d.textOf("abcd", 1+d.below(2)), d.below(4) > 0, up))
		}
		if wantAsRadixRulesSay(t, "any edges", impl.Radix{Edges: edges}) {
			good++
		}
	}
	if good < 400 {
		t.Errorf("only %d are good", good)
	}
}

func TestPromise19AnyTextIsAskedFor(t *testing.T) {
	for _, names := range [][]string{nil, {"a"}, {"romane", "romanus", "rom", "ruber"}, codedNames("", 12)} {
		for c := range 256 {
			one := string([]byte{byte(c)})
			for _, s := range []string{one, one + one, "a" + one, one + "a", "rom" + one, one + "rom", strings.Repeat(one, 20), strings.Repeat(one, 21), strings.Repeat(one, 60), strings.Repeat(one, 61)} {
				wantAllOfText(t, names, s)
			}
		}
		for _, s := range []string{"", "é", "世界", "\xe4\xb8", "a\nb", strings.Repeat("rom", 100000)} {
			wantAllOfText(t, names, s)
		}
	}
}

func TestPromise19AnyTextsAsNames(t *testing.T) {
	d := &dice{state: 139}
	made := 0
	for range 4000 {
		var names []string
		for range d.below(6) {
			names = append(names, d.textOf([]string{"ab", "a{", "a\xff", "abcdefgh"}[d.below(4)], d.below(4)))
		}
		if oracleAreNames(names) {
			wantRadixOf(t, names)
			made++
		} else {
			wantNoRadixOf(t, "any texts", names)
		}
	}
	if made < 400 {
		t.Errorf("only %d are names", made)
	}
	for _, text := range []string{"", "a", "A", strings.Repeat("a", 21)} {
		wantNoRadixOf(t, "so many", slices.Repeat([]string{text}, 100000))
	}
}

// radixArgs are the arguments of all functions of the chapter.
type radixArgs struct {
	names []string
	radix impl.Radix
	text  string
}

// radixAnswer holds the lists that a function of the chapter answers, and tells the rest.
type radixAnswer struct {
	edges []impl.Edge
	names []string
	told  string
}

func (a radixAnswer) tell() string {
	return fmt.Sprintf("%v %q %s", a.edges, a.names, a.told)
}

func (a radixAnswer) pieces() []piece {
	return []piece{edgesPiece(a.edges), textsPiece(a.names)}
}

func (a radixArgs) pieces() []piece {
	return []piece{edgesPiece(a.radix.Edges), textsPiece(a.names)}
}

// behind is the same in new memory, in which more lies behind each length.
func (a radixArgs) behind() radixArgs {
	edges := slices.Concat(a.radix.Edges, []impl.Edge{edge("zz", true, 0), edge("behind", true, 0), edge("a", false, -5)})
	return radixArgs{
		names: slices.Concat(a.names, []string{"zz", "behind", ""})[:len(a.names)],
		radix: impl.Radix{Edges: edges[:len(a.radix.Edges)]},
		text:  a.text,
	}
}

func radixCalls() map[string]func(radixArgs) radixAnswer {
	return map[string]func(radixArgs) radixAnswer{
		"RadixOf": func(a radixArgs) radixAnswer {
			r, ok := impl.RadixOf(a.names)
			return radixAnswer{edges: r.Edges, told: fmt.Sprint(ok)}
		},
		"GoodRadix": func(a radixArgs) radixAnswer {
			return radixAnswer{told: fmt.Sprint(impl.GoodRadix(a.radix))}
		},
		"NamesIn": func(a radixArgs) radixAnswer {
			l, ok := impl.NamesIn(a.radix)
			return radixAnswer{names: l, told: fmt.Sprint(ok)}
		},
		"HasName": func(a radixArgs) radixAnswer {
			has, looks, ok := impl.HasName(a.radix, a.text)
			return radixAnswer{told: fmt.Sprint(has, looks, ok)}
		},
		"WithPrefix": func(a radixArgs) radixAnswer {
			l, ok := impl.WithPrefix(a.radix, a.text)
			return radixAnswer{names: l, told: fmt.Sprint(ok)}
		},
		"PutName": func(a radixArgs) radixAnswer {
			r, ok := impl.PutName(a.radix, a.text)
			return radixAnswer{edges: r.Edges, told: fmt.Sprint(ok)}
		},
		"CutName": func(a radixArgs) radixAnswer {
			r, ok := impl.CutName(a.radix, a.text)
			return radixAnswer{edges: r.Edges, told: fmt.Sprint(ok)}
		},
		"LongestPrefix": func(a radixArgs) radixAnswer {
			s, ok := impl.LongestPrefix(a.radix, a.text)
			return radixAnswer{told: fmt.Sprintf("%q %v", s, ok)}
		},
	}
}

// someRadixArgs puts sets together with their radixes, with broken ones, and with texts that are there, near, or no names.
func someRadixArgs() []radixArgs {
	var all []radixArgs
	for _, names := range someSets() {
		near := nearTexts(names)
		r := oracleRadix(names)
		for k := range 10 {
			all = append(all, radixArgs{names, r, near[k*37%len(near)]})
		}
		for k, name := range names {
			if k%4 == 0 || k == len(names)-1 {
				all = append(all, radixArgs{names, r, name}, radixArgs{withText(names, name), r, name + "zz"})
			}
		}
		all = append(all, radixArgs{append(slices.Clone(names), ""), r, ""}, radixArgs{names, r, "A"}, radixArgs{names, r, "behind"})
	}
	for rule, edges := range brokenEdges() {
		if !strings.Contains(rule, "a million") {
			all = append(all, radixArgs{[]string{"a", rule}, impl.Radix{Edges: edges}, "rom"})
		}
	}
	return all
}

func TestPromise19RadixesStayAsTheyWere(t *testing.T) {
	for _, a := range someRadixArgs() {
		arg := a.behind()
		before := tellPieces(arg.pieces())
		for name, call := range radixCalls() {
			got, want := call(arg), call(a)
			if got.tell() != want.tell() {
				t.Errorf("%s reads what lies behind a length: %s, not %s", name, got.tell(), want.tell())
			}
			wantEmptyBehind(t, name, got.edges)
			wantEmptyBehind(t, name, got.names)
			for _, p := range got.pieces() {
				p.spoil()
			}
			if !slices.Equal(tellPieces(arg.pieces()), before) {
				t.Fatalf("%s writes into an argument, or it changed with an answer: %v", name, a)
			}
		}
	}
}

func TestPromise19RadixAnswersShareNothing(t *testing.T) {
	for k, a := range someRadixArgs() {
		if len(a.names) > 20 && k%5 != 0 {
			continue
		}
		arg := a.behind()
		pieces := arg.pieces()
		for range 2 {
			for _, call := range radixCalls() {
				pieces = append(pieces, call(arg).pieces()...)
			}
		}
		wantApart(t, fmt.Sprintf("names of %q", a.names), pieces)
	}
}

// An answer stays as it was, whatever is done to the arguments later; so does what is answered next.
func TestPromise19RadixAnswersOfLaterChangedArguments(t *testing.T) {
	for _, a := range someRadixArgs() {
		for name, call := range radixCalls() {
			arg := a.behind()
			got := call(arg)
			before := got.tell()
			for _, p := range arg.pieces() {
				p.spoil()
			}
			if again := call(a); got.tell() != before || again.tell() != before {
				t.Errorf("%s of %v changed with an argument: %s, not %s", name, a, got.tell(), before)
			}
		}
	}
}

// What is put behind one answer does not come into another one that was made of the same radix.
func TestPromise19RadixAnswersGrowAlone(t *testing.T) {
	for _, names := range someSets() {
		r := oracleRadix(names)
		for _, name := range []string{"b", "roma", "zzz"} {
			first, ok := impl.PutName(r, name)
			if !ok {
				continue
			}
			second, _ := impl.PutName(r, name)
			first.Edges = append(first.Edges, edge("spoilt", true, 0))
			r.Edges = append(r.Edges, edge("spoilt", true, 0))[:len(r.Edges)]
			wantRadix(t, "PutName "+name, second, true, withText(names, name))
		}
	}
}

// Nothing is kept from call to call.
func TestPromise19RadixesAnswerTheSameAgain(t *testing.T) {
	d := &dice{state: 140}
	for range 60 {
		names, others := d.names(40), d.names(40)
		a := radixArgs{names, oracleRadix(names), d.textOf("ab", 1+d.below(4))}
		first := map[string]string{}
		for name, call := range radixCalls() {
			first[name] = call(a).tell()
		}
		for _, call := range radixCalls() {
			call(radixArgs{others, oracleRadix(others), d.textOf("ab", 1+d.below(4))})
		}
		for name, call := range radixCalls() {
			if again := call(a).tell(); again != first[name] {
				t.Errorf("%s of %v is %s, not %s", name, a, again, first[name])
			}
		}
	}
}
