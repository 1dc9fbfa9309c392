package tests

import (
	"slices"
	"strconv"
	"strings"
	"testing"

	"loop.example/g00274/impl"
)

// dice gives the same row of numbers at each run.
type dice struct {
	state uint64
}

func (d *dice) below(n int) int {
	d.state = d.state*6364136223846793005 + 1442695040888963407
	return int((d.state >> 33) % uint64(n))
}

func (d *dice) pick(s string) string {
	k := d.below(len(s))
	return s[k : k+1]
}

// tree is a value told another way than the program's, so that both can be held against each other.
type tree struct {
	kind  int
	num   int
	text  string
	names []string
	kids  []tree
}

func listOf(kids ...tree) tree {
	return tree{kind: impl.KindList, kids: kids}
}

func numberTree(n int) tree {
	return tree{kind: impl.KindNumber, num: n}
}

func textTree(s string) tree {
	return tree{kind: impl.KindText, text: s}
}

func mapOf(name string, kid tree) tree {
	return tree{kind: impl.KindMap, names: []string{name}, kids: []tree{kid}}
}

func (x tree) value() impl.Value {
	return impl.Value{Nodes: x.appendTo(nil, -1, "")}
}

func (x tree) appendTo(nodes []impl.Node, up int, name string) []impl.Node {
	own := len(nodes)
	nodes = append(nodes, impl.Node{Kind: x.kind, Num: x.num, Text: x.text, Name: name, Up: up})
	for k, kid := range x.kids {
		kidName := ""
		if x.kind == impl.KindMap {
			kidName = x.names[k]
		}
		nodes = kid.appendTo(nodes, own, kidName)
	}
	return nodes
}

func quote(s string) string {
	return `"` + strings.ReplaceAll(strings.ReplaceAll(s, `\`, `\\`), `"`, `\"`) + `"`
}

func (x tree) tidy() string {
	parts := []string{}
	for k, kid := range x.kids {
		part := kid.tidy()
		if x.kind == impl.KindMap {
			part = quote(x.names[k]) + ":" + part
		}
		parts = append(parts, part)
	}
	switch x.kind {
	case impl.KindNumber:
		return strconv.Itoa(x.num)
	case impl.KindText:
		return quote(x.text)
	case impl.KindList:
		return "[" + strings.Join(parts, ",") + "]"
	case impl.KindMap:
		return "{" + strings.Join(parts, ",") + "}"
	}
	return []string{"", "null", "false", "true"}[x.kind]
}

func (x tree) size() int {
	n := 1
	for _, kid := range x.kids {
		n += kid.size()
	}
	return n
}

func (x tree) deep() int {
	n := 0
	for _, kid := range x.kids {
		n = max(n, kid.deep())
	}
	if x.kind >= impl.KindList {
		n++
	}
	return n
}

func goodString(s string) bool {
	return len(s) <= 24 && strings.IndexFunc(s, func(r rune) bool { return r < 32 || r > 126 }) < 0
}

// sound says what the chapter asks of each node and of the whole, but for where the nodes stand.
func (x tree) sound() bool {
	return x.size() <= 80 && x.deep() <= 6 && len(x.tidy()) <= 300 && x.soundParts()
}

func (x tree) soundParts() bool {
	for k, kid := range x.kids {
		if !kid.soundParts() {
			return false
		}
		if x.kind == impl.KindMap && (!goodString(x.names[k]) || k > 0 && x.names[k-1] >= x.names[k]) {
			return false
		}
	}
	return x.num >= -1000000000 && x.num <= 1000000000 && goodString(x.text)
}

func (d *dice) text(longest int) string {
	s := ""
	for range d.below(longest + 1) {
		s += d.pick("abcABC019 \"\"\\\\//~{}[]:,")
	}
	return s
}

func (d *dice) tree(deep int) tree {
	kind := 1 + d.below(7)
	if deep == 0 {
		kind = 1 + d.below(5)
	}
	x := tree{kind: kind}
	switch kind {
	case impl.KindNumber:
		x.num = []int{0, 7, -1, d.below(2000) - 1000, d.below(1000000000), 1000000000, -1000000000}[d.below(7)]
	case impl.KindText:
		x.text = d.text(6)
	case impl.KindList, impl.KindMap:
		for range d.below(5) {
			x.kids = append(x.kids, d.tree(deep-1))
		}
	}
	if kind == impl.KindMap {
		for len(x.names) < len(x.kids) {
			x.names = append(x.names, d.text(2))
			slices.Sort(x.names)
			x.names = slices.Compact(x.names)
		}
	}
	return x
}

// soundTree tells trees of which the texts still have room for blanks.
func (d *dice) soundTree() tree {
	for {
		x := d.tree(d.below(7))
		if x.sound() && len(x.tidy()) <= 150 {
			return x
		}
	}
}

func sameValue(a impl.Value, b impl.Value) bool {
	return slices.Equal(a.Nodes, b.Nodes)
}

func mustRead(t *testing.T, s string) impl.Value {
	t.Helper()
	v, ok := impl.ReadValue(s)
	if !ok {
		t.Fatalf("ReadValue(%q) tells none", s)
	}
	return v
}
