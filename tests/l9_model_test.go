package tests

import (
	"slices"
	"testing"

	"loop.example/g00274/impl"
)

// stretches tell the bounds of each term that all that matches must match, one by one.
func (w wish) stretches(path string) [][2]string {
	if w.kind == impl.TermAnd {
		var all [][2]string
		for _, kid := range w.kids {
			all = append(all, kid.stretches(path)...)
		}
		return all
	}
	if w.path != path || !w.value.isKeyed() {
		return nil
	}
	key, kind := w.value.key(), byte(w.value.kind)
	switch w.kind {
	case impl.TermEq:
		return [][2]string{{key, textAbove(key)}}
	case impl.TermLt:
		return [][2]string{{string([]byte{kind}), key}}
	case impl.TermGt:
		return [][2]string{{key, string([]byte{kind + 1})}}
	}
	return nil
}

func textAbove(key string) string {
	end := len(key)
	for key[end-1] == 255 {
		end--
	}
	return key[:end-1] + string([]byte{key[end-1] + 1})
}

func (w wish) bounds(path string) (string, string) {
	var firsts, seconds []string
	for _, x := range w.stretches(path) {
		firsts, seconds = append(firsts, x[0]), append(seconds, x[1])
	}
	if len(firsts) == 0 {
		return "", ""
	}
	return slices.Max(firsts), slices.Min(seconds)
}

func (s shelf) plan(w wish) (impl.Bound, bool) {
	for index, path := range s.paths {
		if from, to := w.bounds(path); to != "" {
			return impl.Bound{Index: index, From: from, To: to}, true
		}
	}
	return impl.Bound{}, false
}

func (s shelf) matching(w wish) []tree {
	var docs []tree
	for _, x := range s.sorted() {
		if w.matches(x) {
			docs = append(docs, x)
		}
	}
	return docs
}

// lacksKeys tells whether one has a number or a text at an index's path, and yet no key there.
func (s shelf) lacksKeys(index int) bool {
	return slices.ContainsFunc(s.docs, func(x tree) bool {
		at, ok := s.at(index, x)
		return ok && at.isKeyed() && len(at.key()+x.id().key()) > 40
	})
}

func (s shelf) looked(w wish) int {
	b, ok := s.plan(w)
	if !ok || s.lacksKeys(b.Index) {
		return len(s.docs)
	}
	many := 0
	for _, key := range s.keys(b.Index) {
		if key >= b.From && key < b.To {
			many++
		}
	}
	return many
}

func (s shelf) firstBy(w wish, index int, limit int) []tree {
	docs := slices.DeleteFunc(s.keyed(index), func(x tree) bool { return !w.matches(x) })
	return docs[:min(limit, len(docs))]
}

func tidyOf(docs []tree) []string {
	var texts []string
	for _, x := range docs {
		texts = append(texts, x.tidy())
	}
	return texts
}

// wantBounds asks for two texts, also of the test's own model.
func wantBounds(t *testing.T, w wish, path string, from string, to string) {
	t.Helper()
	if gotFrom, gotTo, ok := impl.BoundsOf(w.filter(), path); !ok || gotFrom != from || gotTo != to {
		t.Errorf("BoundsOf(%s, %q) is %q %q %v, not %q %q", w.text(), path, gotFrom, gotTo, ok, from, to)
	}
	if gotFrom, gotTo := w.bounds(path); gotFrom != from || gotTo != to {
		t.Errorf("the test's own bounds of %s at %q are %q %q", w.text(), path, gotFrom, gotTo)
	}
}

func wantNoBounds(t *testing.T, w wish, path string) {
	t.Helper()
	wantBounds(t, w, path, "", "")
}

// wantPlan asks for a plan by the number of its index, or for none where that is below 0.
func wantPlan(t *testing.T, s shelf, w wish, index int) {
	t.Helper()
	want, there := impl.Bound{}, index >= 0
	if there {
		from, to := w.bounds(s.paths[index])
		want = impl.Bound{Index: index, From: from, To: to}
	}
	if got, ok := impl.PlanFor(s.collection(), w.filter()); ok != there || got != want {
		t.Errorf("PlanFor of %q by %s is %+v %v, not %+v %v", s.paths, w.text(), got, ok, want, there)
	}
}

// wantPlanned asks all that find for documents by their ids, and FindPlanned for how many it looks at.
func wantPlanned(t *testing.T, s shelf, w wish, looked int, ids ...string) {
	t.Helper()
	c, f := s.collection(), w.filter()
	var want []string
	for _, id := range ids {
		k := slices.IndexFunc(s.docs, func(x tree) bool { return x.id().tidy() == id })
		want = append(want, s.docs[k].tidy())
	}
	if got, many, ok := impl.FindPlanned(c, f); !ok || many != looked || !slices.Equal(textsOf(t, got), want) {
		t.Errorf("FindPlanned by %s is %v, looked at %d, %v, not %v, looked at %d", w.text(), textsOf(t, got), many, ok, want, looked)
	}
	if got, ok := impl.FindAll(c, f); !ok || !slices.Equal(textsOf(t, got), want) {
		t.Errorf("FindAll by %s is %v %v, not %v", w.text(), textsOf(t, got), ok, want)
	}
	if many, ok := impl.CountIn(c, f); !ok || many != len(want) {
		t.Errorf("CountIn by %s is %d %v, not %d", w.text(), many, ok, len(want))
	}
	if got := tidyOf(s.matching(w)); !slices.Equal(got, want) || s.looked(w) != looked {
		t.Errorf("the test's own, by %s: %v, looked at %d", w.text(), got, s.looked(w))
	}
}

// wantFirstBy asks for documents by their ids, in that order.
func wantFirstBy(t *testing.T, s shelf, w wish, index int, limit int, ids ...string) {
	t.Helper()
	var want []string
	for _, id := range ids {
		k := slices.IndexFunc(s.docs, func(x tree) bool { return x.id().tidy() == id })
		want = append(want, s.docs[k].tidy())
	}
	if got, ok := impl.FirstBy(s.collection(), w.filter(), index, limit); !ok || !slices.Equal(textsOf(t, got), want) {
		t.Errorf("FirstBy index %d, %d of %s, is %v %v, not %v", index, limit, w.text(), textsOf(t, got), ok, want)
	}
	if got := tidyOf(s.firstBy(w, index, limit)); !slices.Equal(got, want) {
		t.Errorf("the test's own first %d of %s are %v", limit, w.text(), got)
	}
}

// search tells wishes of documents that dice.record tells, with many ands.
func (d *dice) search(deep int) wish {
	kind := d.below(10)
	if deep == 0 {
		kind = d.below(5)
	}
	switch kind {
	case 5, 6, 7:
		return and(d.searches(deep)...)
	case 8:
		return or(d.searches(deep)...)
	case 9:
		return not(d.search(deep - 1))
	}
	path := recordPaths()[d.below(5)]
	switch d.below(9) {
	case 0:
		return has(path)
	case 1:
		return wish{kind: impl.TermIn, path: path, value: listOf(d.keyTree(), d.small(1), d.keyTree())}
	case 2:
		return wish{kind: 1 + d.below(3), path: path, value: d.small(1)}
	}
	return wish{kind: 1 + d.below(3), path: path, value: d.keyTree()}
}

func (d *dice) searches(deep int) []wish {
	var kids []wish
	for range d.below(4) {
		kids = append(kids, d.search(deep-1))
	}
	return kids
}
