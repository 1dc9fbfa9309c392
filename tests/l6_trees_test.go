package tests

import (
	"slices"
	"testing"

	"loop.example/g00274/impl"
)

// actedOn does a good act to a tree, told another way than the program does; it does not ask whether the tree is good then.
func actedOn(x tree, a impl.Act) (tree, int) {
	names, _ := oraclePath(a.Path)
	last := len(names) - 1
	around, ok := x.at(names[:last])
	inMap := around.kind == impl.KindMap
	if !ok || around.kind < impl.KindList {
		return x, impl.UpdatePath
	}
	at, there := around.at(names[last:])
	var part tree
	if len(a.Value.Nodes) > 0 {
		part = treeOf(a.Value.Nodes, 0)
	}
	if a.Kind == impl.ActInc || a.Kind == impl.ActPush {
		if !there && !inMap {
			return x, impl.UpdatePath
		}
		return setTree(x, names, at, there, a.Kind, part)
	}
	switch {
	case a.Kind == impl.ActSet:
		made, ok := x.set(names, part)
		if !ok {
			return x, impl.UpdatePath
		}
		return made, impl.UpdateOk
	case a.Kind == impl.ActRename:
		return renameTree(x, names, at, there, part.text)
	case !inMap:
		return x, impl.UpdatePath
	case !there:
		return x, impl.UpdateOk
	case a.Kind == impl.ActUnset:
		made, _ := x.without(names)
		return made, impl.UpdateOk
	case at.kind != impl.KindList:
		return x, impl.UpdateKind
	}
	kept := listOf(slices.DeleteFunc(slices.Clone(at.kids), func(kid tree) bool { return kid.tidy() == part.tidy() })...)
	made, _ := x.set(names, kept)
	return made, impl.UpdateOk
}

func setTree(x tree, names []string, at tree, there bool, kind int, part tree) (tree, int) {
	asked := impl.KindNumber
	if kind == impl.ActPush {
		asked = impl.KindList
	}
	if !there {
		at = tree{kind: asked}
	}
	if at.kind != asked {
		return x, impl.UpdateKind
	}
	at.num += part.num
	if kind == impl.ActPush {
		at = listOf(slices.Concat(at.kids, []tree{part})...)
	}
	made, _ := x.set(names, at)
	return made, impl.UpdateOk
}

func renameTree(x tree, names []string, at tree, there bool, name string) (tree, int) {
	around, _ := x.at(names[:len(names)-1])
	if !there {
		return x, impl.UpdatePath
	}
	if around.kind != impl.KindMap {
		return x, impl.UpdateKind
	}
	all := around.named()
	delete(all, names[len(names)-1])
	all[name] = at
	made, _ := x.set(names[:len(names)-1], mapOfAll(all))
	return made, impl.UpdateOk
}

// oracleAct says the whole of what the chapter says of a good value and a good act.
func oracleAct(x tree, a impl.Act) (tree, int) {
	made, code := actedOn(x, a)
	if code == impl.UpdateOk && !made.sound() {
		return x, impl.UpdateLarge
	}
	return made, code
}

func oracleActs(x tree, l []impl.Act) (tree, int, int) {
	now := x
	for done, a := range l {
		next, code := oracleAct(now, a)
		if code != impl.UpdateOk {
			return x, done, code
		}
		now = next
	}
	return now, len(l), impl.UpdateOk
}

// actAt tells good acts that are often at something in the tree, or just beside it.
func (d *dice) actAt(x tree) impl.Act {
	names := d.somewhere(x)
	if len(names) == 0 || len(oraclePathText(names)) > 60 || d.below(6) == 0 {
		names = []string{d.pick("abclm")}
	}
	a := impl.Act{Kind: 1 + d.below(6), Path: oraclePathText(names)}
	at, _ := x.at(names)
	switch a.Kind {
	case impl.ActSet, impl.ActPush:
		a.Value = d.small(2).value()
		if d.below(12) == 0 {
			a.Value = d.broadTree().value()
		}
	case impl.ActPull:
		a.Value = d.small(1).value()
		if len(at.kids) > 0 && d.below(4) > 0 {
			a.Value = at.kids[d.below(len(at.kids))].value()
		}
	case impl.ActInc:
		a.Value = numberTree([]int{0, 1, -3, 1000000000, -1000000000}[d.below(5)]).value()
	case impl.ActRename:
		around, _ := x.at(names[:len(names)-1])
		a.Value = textTree(d.text(3)).value()
		if len(around.names) > 0 && d.below(2) == 0 {
			a.Value = textTree(around.names[d.below(len(around.names))]).value()
		}
	}
	return a
}

// nearTree is small with many values alike, broad, or nearly too large.
func (d *dice) nearTree() tree {
	if d.below(3) == 0 {
		return d.broadTree()
	}
	x := d.doc()
	if d.below(10) == 0 {
		return mapOf("l", zeros(78-d.below(4)-x.size())).with("m", x)
	}
	if d.below(2) == 0 {
		x = mapOf("m", x).with("l", listOf(d.small(1), d.small(0), d.small(0)))
	}
	return x
}

func TestPromise6ActsAgainstTrees(t *testing.T) {
	d := &dice{state: 61}
	times := map[[2]int]int{}
	for range 30000 {
		x := d.nearTree()
		a := d.actAt(x)
		if !impl.GoodAct(a) {
			t.Fatalf("GoodAct(%s) is false", actText(a))
		}
		want, code := oracleAct(x, a)
		times[[2]int{a.Kind, code}]++
		got, gotCode := impl.DoAct(x.value(), a)
		if gotCode != code || !sameValue(got, want.value()) {
			t.Fatalf("DoAct(%s, %s) is %v %d, not %s %d", x.tidy(), actText(a), got, gotCode, want.tidy(), code)
		}
		steady, ok := impl.IsSteady(x.value(), a)
		again, _ := oracleAct(want, a)
		if ok != (code == impl.UpdateOk) || steady != (ok && again.tidy() == want.tidy()) {
			t.Fatalf("IsSteady(%s, %s) is %v %v", x.tidy(), actText(a), steady, ok)
		}
	}
	for kind := impl.ActSet; kind <= impl.ActRename; kind++ {
		asked := []int{impl.UpdateOk, impl.UpdatePath}
		if kind != impl.ActSet && kind != impl.ActUnset {
			asked = append(asked, impl.UpdateKind)
		}
		if kind == impl.ActSet || kind == impl.ActPush {
			asked = append(asked, impl.UpdateLarge)
		}
		for _, code := range asked {
			if n := times[[2]int{kind, code}]; n < 20 {
				t.Errorf("%d times code %d of the Kind %d: that tells little", n, code, kind)
			}
		}
	}
}

func TestPromise6ManyActsAgainstTrees(t *testing.T) {
	d := &dice{state: 62}
	whole, broken := 0, 0
	for range 2000 {
		x := d.nearTree()
		var l []impl.Act
		now := x
		for many := d.below(13); len(l) < many; {
			a := d.actAt(now)
			next, code := oracleAct(now, a)
			if code == impl.UpdateOk || d.below(20) == 0 {
				l = append(l, a)
				now = next
			}
		}
		want, done, code := oracleActs(x, l)
		if code == impl.UpdateOk && len(l) > 3 {
			whole++
		}
		if code != impl.UpdateOk && done > 1 {
			broken++
		}
		wantActs(t, x.value(), l, want.value(), done, code)
	}
	if whole < 400 || broken < 400 {
		t.Errorf("%d done and %d broken off: that tells little", whole, broken)
	}
}

// wantActs asks DoActs and PostImage, and DoAct of each in turn.
func wantActs(t *testing.T, v impl.Value, l []impl.Act, want impl.Value, done int, code int) {
	t.Helper()
	got, gotDone, gotCode := impl.DoActs(v, l)
	if gotCode != code || gotDone != done || !sameValue(got, want) {
		t.Errorf("DoActs(%v, %v) is %v %d %d, not %v %d %d", v, l, got, gotDone, gotCode, want, done, code)
	}
	image, ok := impl.PostImage(v, l)
	if code != impl.UpdateOk {
		want = impl.Value{}
	}
	if ok != (code == impl.UpdateOk) || !sameValue(image, want) {
		t.Errorf("PostImage(%v, %v) is %v %v", v, l, image, ok)
	}
	now := v
	for k, a := range l[:min(done+1, len(l))] {
		next, each := impl.DoAct(now, a)
		if k < done && each != impl.UpdateOk || k == done && each != code {
			t.Errorf("DoAct of the act %d tells %d: %v", k, each, l)
		}
		now = next
	}
	if code == impl.UpdateOk && !sameValue(now, want) {
		t.Errorf("one by one %v makes %v, not %v", l, now, want)
	}
}
