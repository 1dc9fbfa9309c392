package tests

import (
	"bytes"
	"encoding/json"
	"slices"
	"strings"
	"testing"

	"loop.example/g00274/impl"
)

// broken are values that each break one rule of the chapter.
func broken() map[string]impl.Value {
	list := impl.Node{Kind: impl.KindList, Up: -1}
	dict := impl.Node{Kind: impl.KindMap, Up: -1}
	one := func(name string, up int) impl.Node {
		return impl.Node{Kind: impl.KindNumber, Num: 1, Name: name, Up: up}
	}
	all := map[string][]impl.Node{
		"no nodes":                    {},
		"kind 0":                      {{Kind: 0, Up: -1}},
		"kind -1":                     {{Kind: -1, Up: -1}},
		"kind 8":                      {{Kind: 8, Up: -1}},
		"kind 0 of a part":            {list, {Kind: 0, Up: 0}},
		"first with up 0":             {{Kind: impl.KindNull, Up: 0}},
		"first with up -2":            {{Kind: impl.KindNull, Up: -2}},
		"first with a name":           {{Kind: impl.KindNull, Name: "a", Up: -1}},
		"two wholes":                  {list, {Kind: impl.KindNull, Up: -1}},
		"up of itself":                {list, {Kind: impl.KindList, Up: 1}},
		"up behind it":                {list, one("", 2), {Kind: impl.KindList, Up: 0}},
		"up beyond all":               {list, one("", 9)},
		"up of a number":              {list, one("", 0), one("", 1)},
		"up of a text":                {{Kind: impl.KindText, Text: "a", Up: -1}, one("", 0)},
		"up of null":                  {{Kind: impl.KindNull, Up: -1}, one("", 0)},
		"up of true":                  {{Kind: impl.KindTrue, Up: -1}, one("", 0)},
		"not right behind":            {list, {Kind: impl.KindList, Up: 0}, one("", 0), one("", 1)},
		"not with all its own":        {list, {Kind: impl.KindList, Up: 0}, {Kind: impl.KindList, Up: 0}, one("", 1), one("", 2)},
		"num of null":                 {{Kind: impl.KindNull, Num: 1, Up: -1}},
		"num of false":                {{Kind: impl.KindFalse, Num: 1, Up: -1}},
		"num of true":                 {{Kind: impl.KindTrue, Num: -1, Up: -1}},
		"num of a text":               {{Kind: impl.KindText, Num: 1, Up: -1}},
		"num of a list":               {{Kind: impl.KindList, Num: 1, Up: -1}},
		"num of a map":                {{Kind: impl.KindMap, Num: 1, Up: -1}},
		"number too great":            {{Kind: impl.KindNumber, Num: 1000000001, Up: -1}},
		"number too small":            {{Kind: impl.KindNumber, Num: -1000000001, Up: -1}},
		"text of null":                {{Kind: impl.KindNull, Text: "a", Up: -1}},
		"text of false":               {{Kind: impl.KindFalse, Text: "a", Up: -1}},
		"text of true":                {{Kind: impl.KindTrue, Text: "a", Up: -1}},
		"text of a number":            {{Kind: impl.KindNumber, Text: "a", Up: -1}},
		"text of a list":              {{Kind: impl.KindList, Text: "a", Up: -1}},
		"text of a map":               {{Kind: impl.KindMap, Text: "a", Up: -1}},
		"text too long":               {{Kind: impl.KindText, Text: strings.Repeat("a", 25), Up: -1}},
		"text with byte 31":           {{Kind: impl.KindText, Text: "a\x1f", Up: -1}},
		"text with byte 127":          {{Kind: impl.KindText, Text: "\x7fa", Up: -1}},
		"text with a byte beyond":     {{Kind: impl.KindText, Text: "é", Up: -1}},
		"name of a list's part":       {list, one("a", 0)},
		"name too long":               {dict, one(strings.Repeat("a", 25), 0)},
		"name with byte 10":           {dict, one("a\n", 0)},
		"name with byte 127":          {dict, one("\x7f", 0)},
		"names alike":                 {dict, one("a", 0), one("a", 0)},
		"empty names alike":           {dict, one("", 0), one("", 0)},
		"names falling":               {dict, one("b", 0), one("a", 0)},
		"names falling behind a part": {dict, {Kind: impl.KindMap, Name: "b", Up: 0}, one("c", 1), one("a", 0)},
		"names alike behind a part":   {dict, {Kind: impl.KindMap, Name: "b", Up: 0}, one("a", 1), one("b", 0)},
		"too many nodes":              append([]impl.Node{list}, slices.Repeat([]impl.Node{one("", 0)}, 80)...),
		"too deep":                    nested(7, numberTree(1)).value().Nodes,
		"text of all too long":        manyTexts(11, numberTree(77)).value().Nodes,
	}
	values := map[string]impl.Value{}
	for rule, nodes := range all {
		values[rule] = impl.Value{Nodes: nodes}
	}
	return values
}

func TestPromise1ValuesThatAreNotGood(t *testing.T) {
	for rule, v := range broken() {
		if impl.GoodValue(v) {
			t.Errorf("good: %s", rule)
		}
		if s, ok := impl.ValueText(v); ok || s != "" {
			t.Errorf("%s: ValueText is %q %v", rule, s, ok)
		}
	}
}

// treeOf takes nodes as a tree; soundly, if the tree's nodes are just these again.
func treeOf(nodes []impl.Node, k int) tree {
	x := tree{kind: nodes[k].Kind, num: nodes[k].Num, text: nodes[k].Text}
	for i := k + 1; i < len(nodes); i++ {
		if nodes[i].Up == k {
			x.kids = append(x.kids, treeOf(nodes, i))
			x.names = append(x.names, nodes[i].Name)
		}
	}
	return x
}

func oracleGood(v impl.Value) bool {
	if len(v.Nodes) == 0 {
		return false
	}
	for _, n := range v.Nodes {
		if n.Kind < 1 || n.Kind > 7 || n.Num != 0 && n.Kind != impl.KindNumber || n.Text != "" && n.Kind != impl.KindText {
			return false
		}
		if n.Up >= 0 && n.Up < len(v.Nodes) && v.Nodes[n.Up].Kind < impl.KindList {
			return false
		}
	}
	x := treeOf(v.Nodes, 0)
	return x.sound() && sameValue(x.value(), v)
}

func (d *dice) spoil(v impl.Value) impl.Value {
	nodes := slices.Clone(v.Nodes)
	for range 1 + d.below(2) {
		n := &nodes[d.below(len(nodes))]
		switch d.below(5) {
		case 0:
			n.Kind = d.below(10) - 1
		case 1:
			n.Num = d.below(3) - 1
		case 2:
			n.Text = d.text(1)
		case 3:
			n.Name = d.text(2)
		case 4:
			n.Up = d.below(len(nodes)+2) - 2
		}
	}
	return impl.Value{Nodes: nodes}
}

func TestPromise1GoodValueAgainstTrees(t *testing.T) {
	d := &dice{state: 3}
	good := 0
	for range 30000 {
		v := d.spoil(d.soundTree().value())
		want := oracleGood(v)
		if got := impl.GoodValue(v); got != want {
			t.Fatalf("GoodValue is %v, not %v: %v", got, want, v)
		}
		s, ok := impl.ValueText(v)
		if ok != want {
			t.Fatalf("ValueText is %q %v: %v", s, ok, v)
		}
		if want {
			good++
			wantValue(t, v, treeOf(v.Nodes, 0).tidy())
		}
	}
	if good < 1000 || good > 29000 {
		t.Errorf("%d of 30000 are good: that tells little", good)
	}
}

// oracleRead reads by the library's reader what the chapter takes of RFC 8259.
func oracleRead(s string) (tree, bool) {
	if len(s) > 300 || strings.IndexFunc(s, func(r rune) bool { return r != 10 && (r < 32 || r > 126) }) >= 0 || !json.Valid([]byte(s)) {
		return tree{}, false
	}
	dec := json.NewDecoder(bytes.NewReader([]byte(s)))
	dec.UseNumber()
	x, ok := oracleNext(dec)
	return x, ok && x.sound()
}

func oracleNext(dec *json.Decoder) (tree, bool) {
	token, err := dec.Token()
	if err != nil {
		return tree{}, false
	}
	switch y := token.(type) {
	case json.Delim:
		return oracleParts(dec, y == '{')
	case string:
		return textTree(y), true
	case json.Number:
		n, err := y.Int64()
		return numberTree(int(n)), err == nil && y != "-0"
	case bool:
		if y {
			return tree{kind: impl.KindTrue}, true
		}
		return tree{kind: impl.KindFalse}, true
	}
	return tree{kind: impl.KindNull}, true
}

func oracleParts(dec *json.Decoder, named bool) (tree, bool) {
	x := tree{kind: impl.KindList}
	if named {
		x.kind = impl.KindMap
	}
	for dec.More() {
		name, place := "", len(x.kids)
		if named {
			token, _ := dec.Token()
			name = token.(string)
			there := false
			if place, there = slices.BinarySearch(x.names, name); there {
				return tree{}, false
			}
		}
		kid, ok := oracleNext(dec)
		if !ok {
			return tree{}, false
		}
		x.kids = slices.Insert(x.kids, place, kid)
		if named {
			x.names = slices.Insert(x.names, place, name)
		}
	}
	_, err := dec.Token()
	return x, err == nil
}

func (d *dice) scribble(s string) string {
	for range 1 + d.below(3) {
		k := d.below(len(s) + 1)
		switch d.below(3) {
		case 0:
			s = s[:k] + d.pick("{}[]:,\"\\/u0019-abtfnrueE+. \n\t\x7f\x00") + s[k:]
		case 1:
			if k < len(s) {
				s = s[:k] + s[k+1:]
			}
		case 2:
			if k < len(s) {
				s = s[:k] + d.pick("{}[]:,\"\\/u0019-ab \n") + s[k+1:]
			}
		}
	}
	return s
}

func TestPromise1ReadValueAgainstTheLibrary(t *testing.T) {
	d := &dice{state: 4}
	read := 0
	for range 60000 {
		s := d.loose(d.soundTree())
		if d.below(4) > 0 {
			s = d.scribble(s)
		}
		x, want := oracleRead(s)
		v, ok := impl.ReadValue(s)
		if ok != want || ok && !sameValue(v, x.value()) || !ok && len(v.Nodes) > 0 {
			t.Fatalf("ReadValue(%q) is %v %v, not %v", s, v, ok, want)
		}
		tidy, ok := impl.TidyText(s)
		if ok != want || ok && tidy != x.tidy() || !ok && tidy != "" {
			t.Fatalf("TidyText(%q) is %q %v, not %v", s, tidy, ok, want)
		}
		if ok {
			read++
		}
	}
	if read < 10000 || read > 50000 {
		t.Errorf("%d of 60000 are read: that tells little", read)
	}
}
