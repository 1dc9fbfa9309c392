package tests

import (
	"slices"
	"strconv"
	"strings"
	"testing"

	"loop.example/g00274/impl"
)

// pairs are keys and their values told as a list that rises by its keys, without a tree.
type pairs []pair

type pair struct {
	key   string
	value string
}

func pairsOf(keys ...string) pairs {
	var p pairs
	for _, key := range keys {
		p = p.with(key, "v"+key)
	}
	return p
}

func (p pairs) without(key string) pairs {
	return slices.DeleteFunc(slices.Clone(p), func(x pair) bool { return x.key == key })
}

func (p pairs) with(key string, value string) pairs {
	made := append(p.without(key), pair{key: key, value: value})
	slices.SortFunc(made, func(a pair, b pair) int { return strings.Compare(a.key, b.key) })
	return made
}

func (p pairs) has(key string) bool {
	return slices.ContainsFunc(p, func(x pair) bool { return x.key == key })
}

func (p pairs) keys() []string {
	var keys []string
	for _, x := range p {
		keys = append(keys, x.key)
	}
	return keys
}

// between tells those from from on, below to; without a to all from there on.
func (p pairs) between(from string, to string, hasTo bool) pairs {
	var made pairs
	for _, x := range p {
		if strings.Compare(x.key, from) >= 0 && (!hasTo || strings.Compare(x.key, to) < 0) {
			made = append(made, x)
		}
	}
	return made
}

// oracleWeight adds up the rule of the chapter byte by byte.
func oracleWeight(key string) int {
	h := uint64(5381)
	for _, b := range []byte(key) {
		h = ((h<<5 + h) ^ uint64(b)) % 1000003
	}
	return int(h * 7919 % 1000003)
}

// top is the one that no other may stand above: the heaviest, of those the first.
func (p pairs) top() int {
	best := 0
	for k := range p {
		if oracleWeight(p[k].key) > oracleWeight(p[best].key) {
			best = k
		}
	}
	return best
}

// limbs writes the one shape, told from above.
func (p pairs) limbs(first int) []impl.Limb {
	if len(p) == 0 {
		return nil
	}
	k := p.top()
	left := p[:k].limbs(first + 1)
	right := p[k+1:].limbs(first + 1 + len(left))
	own := impl.Limb{Key: p[k].key, Value: p[k].value, Left: -1, Right: -1}
	if len(left) > 0 {
		own.Left = first + 1
	}
	if len(right) > 0 {
		own.Right = first + 1 + len(left)
	}
	return slices.Concat([]impl.Limb{own}, left, right)
}

func (p pairs) treap() impl.Treap {
	return impl.Treap{Limbs: p.limbs(0)}
}

// looks tells how many are passed from above down to a key, with its own.
func (p pairs) looks(key string) int {
	k := p.top()
	switch strings.Compare(key, p[k].key) {
	case -1:
		return 1 + p[:k].looks(key)
	case 1:
		return 1 + p[k+1:].looks(key)
	}
	return 1
}

func (p pairs) deep() int {
	if len(p) == 0 {
		return 0
	}
	k := p.top()
	return 1 + max(p[:k].deep(), p[k+1:].deep())
}

func treapOf(keys ...string) impl.Treap {
	return pairsOf(keys...).treap()
}

// belowLimb tells all limbs that are reached from one on, it first; it tells false where one of them is met twice or is none.
func belowLimb(limbs []impl.Limb, k int, met map[int]int) ([]int, bool) {
	if k == -1 {
		return nil, true
	}
	if k < 0 || k >= len(limbs) || met[k] > 0 {
		return nil, false
	}
	met[k]++
	left, ok := belowLimb(limbs, limbs[k].Left, met)
	if !ok {
		return nil, false
	}
	right, ok := belowLimb(limbs, limbs[k].Right, met)
	return slices.Concat([]int{k}, left, right), ok
}

// oracleGoodTreap asks rule by rule, each limb against all below it.
func oracleGoodTreap(t impl.Treap) bool {
	if len(t.Limbs) > 60 {
		return false
	}
	for _, l := range t.Limbs {
		if len(l.Key) == 0 || len(l.Key) > 40 || len(l.Value) > 60 {
			return false
		}
	}
	if len(t.Limbs) == 0 {
		return true
	}
	all, ok := belowLimb(t.Limbs, 0, map[int]int{})
	return ok && len(all) == len(t.Limbs) && !slices.ContainsFunc(all, func(k int) bool { return !oracleGoodLimb(t.Limbs, k) })
}

func oracleGoodLimb(limbs []impl.Limb, k int) bool {
	own := limbs[k]
	left, _ := belowLimb(limbs, own.Left, map[int]int{})
	right, _ := belowLimb(limbs, own.Right, map[int]int{})
	for _, x := range left {
		if x < k || limbs[x].Key >= own.Key {
			return false
		}
		if slices.ContainsFunc(right, func(y int) bool { return y < x }) {
			return false
		}
	}
	for _, x := range right {
		if x < k || limbs[x].Key <= own.Key {
			return false
		}
	}
	return !slices.ContainsFunc(slices.Concat(left, right), func(x int) bool {
		more := oracleWeight(limbs[x].Key) - oracleWeight(own.Key)
		return more > 0 || more == 0 && limbs[x].Key < own.Key
	})
}

// alikeKeys tells that many keys of the same weight, rising.
func alikeKeys(many int, weight int) []string {
	letters := "abcdefghijklmnopqrstuvwxyz0123456789ABCDEFGHIJ"
	var keys []string
	var search func(key string, h uint64)
	search = func(key string, h uint64) {
		if len(keys) == many {
			return
		}
		for _, b := range []byte(letters) {
			next := (33*h ^ uint64(b)) % 1000003
			if len(key) < 4 {
				search(key+string(rune(b)), next)
			} else if int(next*7919%1000003) == weight && len(keys) < many {
				keys = append(keys, key+string(rune(b)))
			}
		}
	}
	search("", 5381)
	slices.Sort(keys)
	return keys
}

func (d *dice) key() string {
	if d.below(8) == 0 {
		return []string{"pb", "ozac", "pc", "ozab", "dutf", "yyzf"}[d.below(6)]
	}
	key := []byte{}
	for range 1 + d.below([]int{1, 2, 3, 40}[d.below(4)]) {
		key = append(key, "ab\x00\xff\x7f\x80m"[d.below(7)])
	}
	return string(key)
}

func (d *dice) pairs(most int) pairs {
	var p pairs
	for range d.below(most + 1) {
		p = p.with(d.key(), strings.Repeat("v", d.below(61)))
	}
	return p
}

func (d *dice) shuffled(p pairs) pairs {
	made := slices.Clone(p)
	for k := range made {
		other := d.below(k + 1)
		made[k], made[other] = made[other], made[k]
	}
	return made
}

// manyKeys tells keys that rise.
func manyKeys(many int) []string {
	var keys []string
	for k := range many {
		keys = append(keys, "k"+strconv.Itoa(1000+k))
	}
	return keys
}

func sameTreap(a impl.Treap, b impl.Treap) bool {
	return slices.Equal(a.Limbs, b.Limbs)
}

func wantTreap(t *testing.T, what string, got impl.Treap, ok bool, want impl.Treap) {
	t.Helper()
	if !ok || !sameTreap(got, want) {
		t.Errorf("%s is %v %v, not %v", what, got, ok, want)
	}
	if !oracleGoodTreap(got) || !impl.GoodTreap(got) {
		t.Errorf("%s is not good: %v", what, got)
	}
}

func wantZeroTreap(t *testing.T, what string, got impl.Treap, ok bool) {
	t.Helper()
	if ok || len(got.Limbs) != 0 {
		t.Errorf("%s is %v %v", what, got, ok)
	}
}

func mustPut(t *testing.T, p pairs) impl.Treap {
	t.Helper()
	made := impl.Treap{}
	for _, x := range p {
		next, ok := impl.PutKey(made, x.key, x.value)
		if !ok {
			t.Fatalf("PutKey(%q) to %v is refused", x.key, made)
		}
		made = next
	}
	return made
}
