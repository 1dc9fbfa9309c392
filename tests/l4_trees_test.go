package tests

import (
	"maps"
	"slices"
	"strconv"
	"strings"
	"testing"

	"loop.example/g00274/impl"
)

var nullTree = tree{kind: impl.KindNull}

// named tells the parts of a map by their names; of what is no map there are none.
func (x tree) named() map[string]tree {
	all := map[string]tree{}
	for k, name := range x.names {
		all[name] = x.kids[k]
	}
	return all
}

func mapOfAll(all map[string]tree) tree {
	x := tree{kind: impl.KindMap}
	for _, name := range slices.Sorted(maps.Keys(all)) {
		x.names = append(x.names, name)
		x.kids = append(x.kids, all[name])
	}
	return x
}

func (x tree) patched(p tree) tree {
	if p.kind != impl.KindMap {
		return p
	}
	all := x.named()
	for name, part := range p.named() {
		if part.kind == impl.KindNull {
			delete(all, name)
		} else {
			all[name] = all[name].patched(part)
		}
	}
	return mapOfAll(all)
}

func (x tree) cleaned() tree {
	if x.kind != impl.KindMap {
		return x
	}
	all := x.named()
	for name, part := range all {
		all[name] = part.cleaned()
		if part.kind == impl.KindNull {
			delete(all, name)
		}
	}
	return mapOfAll(all)
}

func (x tree) diff(y tree) tree {
	if x.kind != impl.KindMap || y.kind != impl.KindMap {
		return y
	}
	all := y.named()
	for name, part := range x.named() {
		other, both := all[name]
		switch {
		case !both:
			all[name] = nullTree
		case part.tidy() == other.tidy():
			delete(all, name)
		default:
			all[name] = part.diff(other)
		}
	}
	return mapOfAll(all)
}

func (x tree) joined(q tree) (tree, bool) {
	if q.kind != impl.KindMap {
		return q, true
	}
	if x.kind != impl.KindMap {
		return tree{}, false
	}
	all := x.named()
	for name, part := range q.named() {
		if was, both := all[name]; both {
			made, ok := was.joined(part)
			if !ok {
				return tree{}, false
			}
			part = made
		}
		all[name] = part
	}
	return mapOfAll(all), true
}

// patch tells trees whose maps share many names, with many nulls.
func (d *dice) patch(deep int) tree {
	if deep > 0 && d.below(5) > 0 {
		all := map[string]tree{}
		for range d.below(5) {
			all[d.pick("abcd")] = d.patch(deep - 1)
		}
		return mapOfAll(all)
	}
	switch d.below(4) {
	case 0:
		return nullTree
	case 1:
		return numberTree(d.below(3))
	case 2:
		return listOf(d.tree(1))
	}
	return textTree(d.text(3))
}

func (d *dice) soundPatch() tree {
	for {
		if x := d.patch(1 + d.below(4)); x.sound() {
			return x
		}
	}
}

// wantTree asks for a value, or for the zero answer where the tree is not good.
func wantTree(t *testing.T, what string, got impl.Value, ok bool, want tree) {
	t.Helper()
	if !want.sound() {
		if ok || len(got.Nodes) != 0 {
			t.Errorf("%s is %v %v", what, got, ok)
		}
		return
	}
	if !ok || !sameValue(got, want.value()) {
		t.Errorf("%s is %v %v, not %s", what, got, ok, want.tidy())
	}
}

func TestPromise4PatchesAgainstTrees(t *testing.T) {
	d := &dice{state: 41}
	changes := 0
	for range 8000 {
		x, p := d.soundPatch(), d.soundPatch()
		want := x.patched(p)
		got, ok := impl.ApplyPatch(x.value(), p.value())
		wantTree(t, "ApplyPatch "+x.tidy()+" "+p.tidy(), got, ok, want)
		if !ok {
			continue
		}
		if want.tidy() != x.tidy() && want.tidy() != p.tidy() {
			changes++
		}
		again, ok := impl.ApplyPatch(got, p.value())
		wantTree(t, "put twice "+x.tidy()+" "+p.tidy(), again, ok, want)
	}
	if changes < 3000 {
		t.Errorf("%d changes: that tells little", changes)
	}
}

func TestPromise4CleanAgainstTrees(t *testing.T) {
	d := &dice{state: 42}
	for range 8000 {
		x := d.soundPatch()
		want := x.cleaned()
		got, ok := impl.CleanOf(x.value())
		wantTree(t, "CleanOf "+x.tidy(), got, ok, want)
		if clean, ok := impl.IsClean(x.value()); !ok || clean != (want.tidy() == x.tidy()) {
			t.Errorf("IsClean(%s) is %v %v", x.tidy(), clean, ok)
		}
		// What a patch leaves where nothing was is clean.
		left, ok := impl.ApplyPatch(nullTree.value(), x.value())
		wantTree(t, "ApplyPatch null "+x.tidy(), left, ok, want)
	}
}

func TestPromise4WhatDiffersAgainstTrees(t *testing.T) {
	d := &dice{state: 43}
	refused := 0
	for range 8000 {
		a, b := d.soundPatch(), d.soundPatch()
		if b.cleaned().tidy() != b.tidy() {
			refused++
			if got, ok := impl.DiffOf(a.value(), b.value()); ok || len(got.Nodes) != 0 {
				t.Errorf("DiffOf(%s, %s) is %v %v", a.tidy(), b.tidy(), got, ok)
			}
			b = b.cleaned()
		}
		got, ok := impl.DiffOf(a.value(), b.value())
		wantTree(t, "DiffOf "+a.tidy()+" "+b.tidy(), got, ok, a.diff(b))
		if ok {
			other, ok := impl.ApplyPatch(a.value(), got)
			wantTree(t, "what differs, put to "+a.tidy(), other, ok, b)
		}
	}
	if refused < 1000 {
		t.Errorf("%d refused: that tells little", refused)
	}
}

func TestPromise4JoinedPatchesAgainstTrees(t *testing.T) {
	d := &dice{state: 44}
	done, refused := 0, 0
	for range 8000 {
		x, p, q := d.soundPatch(), d.soundPatch(), d.soundPatch()
		want, can := p.joined(q)
		got, ok := impl.JoinPatches(p.value(), q.value())
		if !can {
			refused++
			if ok || len(got.Nodes) != 0 {
				t.Errorf("JoinPatches(%s, %s) is %v %v", p.tidy(), q.tidy(), got, ok)
			}
			continue
		}
		done++
		wantTree(t, "JoinPatches "+p.tidy()+" "+q.tidy(), got, ok, want)
		one, oneOk := impl.ApplyPatch(x.value(), p.value())
		if !ok || !oneOk {
			continue
		}
		both, bothOk := impl.ApplyPatch(one, q.value())
		at, atOk := impl.ApplyPatch(x.value(), got)
		if bothOk != atOk || !sameValue(both, at) {
			t.Errorf("%s and %s, put to %s, are %v %v; joined they are %v %v", p.tidy(), q.tidy(), x.tidy(), both, bothOk, at, atOk)
		}
	}
	if done < 2000 || refused < 2000 {
		t.Errorf("%d done and %d refused: that tells little", done, refused)
	}
}

// zeros is a list of so many numbers 0.
func zeros(n int) tree {
	return listOf(slices.Repeat([]tree{numberTree(0)}, n)...)
}

// manyNames is a map with names that begin alike, each with the same value.
func manyNames(first string, n int, each tree) tree {
	all := map[string]tree{}
	for k := range n {
		all[first+strconv.Itoa(k)] = each
	}
	return mapOfAll(all)
}

// with is a map and a name more.
func (x tree) with(name string, part tree) tree {
	all := x.named()
	all[name] = part
	return mapOfAll(all)
}

// limitCase is an answer that meets a limit, and one that goes beyond it by the least that it can.
type limitCase struct {
	what        string
	a, b        tree
	size, bytes int
}

func wantLimits(t *testing.T, what string, call ofTwo, make func(tree, tree) tree, cases []limitCase) {
	t.Helper()
	for _, c := range cases {
		want := make(c.a, c.b)
		if !c.a.sound() || !c.b.sound() || c.size > 0 && want.size() != c.size || c.bytes > 0 && len(want.tidy()) != c.bytes {
			t.Fatalf("%s %s: the test is not as it says: %d nodes, %d bytes", what, c.what, want.size(), len(want.tidy()))
		}
		if beyond := c.size > 80 || c.bytes > 300; want.sound() == beyond {
			t.Fatalf("%s %s: the test goes beyond another limit: %s", what, c.what, want.tidy())
		}
		got, ok := call(c.a.value(), c.b.value())
		wantTree(t, what+" "+c.what, got, ok, want)
	}
}

func TestPromise4ApplyPatchAtTheLimits(t *testing.T) {
	long := manyNames("a", 9, textTree(strings.Repeat("t", 22)))
	wantLimits(t, "ApplyPatch", impl.ApplyPatch, tree.patched, []limitCase{
		{"to 80 nodes", mapOf("a", zeros(38)), mapOf("b", zeros(39)), 80, 0},
		{"to 81 nodes", mapOf("a", zeros(38)), mapOf("b", zeros(40)), 81, 0},
		{"to 80 nodes by a name below", mapOf("x", mapOf("a", zeros(38))), mapOf("x", mapOf("b", zeros(38))), 80, 0},
		{"to 81 nodes by a name below", mapOf("x", mapOf("a", zeros(38))), mapOf("x", mapOf("b", zeros(39))), 81, 0},
		{"to 80 nodes that are the patch's", numberTree(1), mapOf("b", zeros(78)), 80, 0},
		{"to 300 bytes", long, mapOf("b", textTree(strings.Repeat("t", 22))), 0, 300},
		{"to 301 bytes", long, mapOf("b", textTree(strings.Repeat("t", 23))), 0, 301},
		{"to 300 bytes of what was less", long.with("b", numberTree(1)), mapOf("b", textTree(strings.Repeat("t", 22))), 0, 300},
		{"to 301 bytes of what was less", long.with("b", numberTree(1)), mapOf("b", textTree(strings.Repeat("t", 23))), 0, 301},
		{"one goes, another comes", mapOf("b", zeros(70)), mapOf("b", nullTree).with("a", zeros(77)), 79, 0},
		{"one comes, another goes", mapOf("b", zeros(70)), mapOf("c", zeros(77)).with("b", nullTree), 79, 0},
		{"one comes, another is less", mapOf("b", zeros(70)), mapOf("a", zeros(75)).with("b", nullTree).with("c", numberTree(1)), 78, 0},
	})
}

func TestPromise4DiffOfAtTheLimits(t *testing.T) {
	nulls := manyNames("a", 10, numberTree(1))
	long := manyNames("a", 9, textTree(strings.Repeat("t", 22)))
	tens := manyNames("x", 10, numberTree(1))
	wantLimits(t, "DiffOf", impl.DiffOf, tree.diff, []limitCase{
		{"to 80 nodes", nulls, mapOf("b", zeros(68)), 80, 0},
		{"to 81 nodes", nulls, mapOf("b", zeros(69)), 81, 0},
		{"to 80 nodes that are the second's", numberTree(1), mapOf("b", zeros(78)), 80, 0},
		{"to 300 bytes", mapOf("b", numberTree(1)), long.with("c", textTree(strings.Repeat("t", 13))), 0, 300},
		{"to 301 bytes", mapOf("b", numberTree(1)), long.with("c", textTree(strings.Repeat("t", 14))), 0, 301},
		{"to 300 bytes with ten nulls", tens, manyNames("a", 6, textTree(strings.Repeat("t", 22))).with("c", textTree(strings.Repeat("u", 12))), 0, 300},
		{"to 301 bytes with ten nulls", tens, manyNames("a", 6, textTree(strings.Repeat("t", 22))).with("c", textTree(strings.Repeat("u", 13))), 0, 301},
	})
}

func TestPromise4JoinPatchesAtTheLimits(t *testing.T) {
	long := manyNames("a", 9, textTree(strings.Repeat("t", 22)))
	joined := func(p tree, q tree) tree {
		made, _ := p.joined(q)
		return made
	}
	wantLimits(t, "JoinPatches", impl.JoinPatches, joined, []limitCase{
		{"to 80 nodes", mapOf("a", zeros(38)), mapOf("b", zeros(39)), 80, 0},
		{"to 81 nodes", mapOf("a", zeros(39)), mapOf("b", zeros(39)), 81, 0},
		{"to 80 nodes by a name below", mapOf("x", mapOf("a", zeros(38))), mapOf("x", mapOf("b", zeros(38))), 80, 0},
		{"to 81 nodes by a name below", mapOf("x", mapOf("a", zeros(39))), mapOf("x", mapOf("b", zeros(38))), 81, 0},
		{"to 300 bytes", long, mapOf("b", textTree(strings.Repeat("t", 22))), 0, 300},
		{"to 301 bytes", long, mapOf("b", textTree(strings.Repeat("t", 23))), 0, 301},
		{"to 300 bytes by another value", long.with("b", nullTree), mapOf("b", textTree(strings.Repeat("t", 22))), 0, 300},
		{"to 301 bytes by another value", long.with("b", nullTree), mapOf("b", textTree(strings.Repeat("t", 23))), 0, 301},
	})
}

// mapsWithin are so many maps, one within the other, around a value.
func mapsWithin(deep int, inner tree) tree {
	for range deep {
		inner = mapOf("a", inner)
	}
	return inner
}

// A part stands as deep as it stood: two good values make nothing that is too deep.
func TestPromise4SixDeep(t *testing.T) {
	one, two := mapsWithin(6, numberTree(1)), mapsWithin(5, mapOf("b", numberTree(2)))
	list := mapsWithin(5, listOf(nullTree))
	for _, x := range []tree{one, two, list, nested(6, nullTree), tree{kind: impl.KindMap}, mapsWithin(6, nullTree)} {
		for _, y := range []tree{one, two, list, nested(6, nullTree), tree{kind: impl.KindMap}} {
			what := x.tidy() + " " + y.tidy()
			got, ok := impl.ApplyPatch(x.value(), y.value())
			wantTree(t, "ApplyPatch "+what, got, ok, x.patched(y))
			got, ok = impl.DiffOf(x.value(), y.value())
			wantTree(t, "DiffOf "+what, got, ok, x.diff(y))
			if want, can := x.joined(y); can {
				got, ok = impl.JoinPatches(x.value(), y.value())
				wantTree(t, "JoinPatches "+what, got, ok, want)
			}
		}
	}
	got, ok := impl.CleanOf(mapsWithin(6, nullTree).value())
	wantTree(t, "CleanOf", got, ok, mapsWithin(5, tree{kind: impl.KindMap}))
}

func TestPromise4CleanOfAtTheLimits(t *testing.T) {
	for _, x := range []tree{
		mapOf("a", zeros(78)),
		mapOf("a", zeros(77)).with("b", nullTree),
		manyNames("a", 27, nullTree),
		manyNames("", 30, nullTree),
		manyNames("a", 9, textTree(strings.Repeat("t", 22))).with("b", textTree(strings.Repeat("t", 22))),
	} {
		if !x.sound() {
			t.Fatal("the test is not as it says:", len(x.tidy()), x.size())
		}
		got, ok := impl.CleanOf(x.value())
		wantTree(t, "CleanOf "+x.tidy(), got, ok, x.cleaned())
	}
}
