package impl

import (
	"slices"
	"strconv"
	"strings"
)

const MaxText = 300
const MaxDeep = 6
const MaxNodes = 80
const MaxString = 24

const (
	KindNull = iota + 1
	KindFalse
	KindTrue
	KindNumber
	KindText
	KindList
	KindMap
)

// The least number is as far below 0.
const greatestNumber = 1000000000

type Node struct {
	Kind int
	Num  int
	Text string
	Name string
	Up   int
}

type Value struct {
	Nodes []Node
}

func GoodValue(v Value) bool {
	if len(v.Nodes) == 0 || len(v.Nodes) > MaxNodes {
		return false
	}
	for k, n := range v.Nodes {
		if !goodContent(n) || !goodPlace(v.Nodes, k) {
			return false
		}
	}
	return deepest(v.Nodes) <= MaxDeep && len(tellNodes(v.Nodes)) <= MaxText
}

func ReadValue(s string) (Value, bool) {
	if len(s) > MaxText {
		return Value{}, false
	}
	r := reader{text: s}
	nodes, ok := r.value(0)
	v := Value{Nodes: nodes}
	if !ok || r.at < len(s) || !GoodValue(v) {
		return Value{}, false
	}
	return v, true
}

func ValueText(v Value) (string, bool) {
	if !GoodValue(v) {
		return "", false
	}
	return tellNodes(v.Nodes), true
}

func TidyText(s string) (string, bool) {
	v, ok := ReadValue(s)
	if !ok {
		return "", false
	}
	return ValueText(v)
}

func KidsOf(v Value, k int) ([]int, bool) {
	if !hasNode(v, k) {
		return nil, false
	}
	var kids []int
	for i, n := range v.Nodes {
		if n.Up == k {
			kids = append(kids, i)
		}
	}
	return kids, true
}

func SubOf(v Value, k int) (Value, bool) {
	if !hasNode(v, k) {
		return Value{}, false
	}
	whole := v.Nodes[k]
	whole.Name = ""
	whole.Up = -1
	nodes := []Node{whole}
	for _, n := range v.Nodes[k+1:] {
		// The first one that belongs to a node ahead of k ends what is k's own.
		if n.Up < k {
			break
		}
		n.Up -= k
		nodes = append(nodes, n)
	}
	return Value{Nodes: nodes}, true
}

func DeepOf(v Value) (int, bool) {
	if !GoodValue(v) {
		return 0, false
	}
	return deepest(v.Nodes), true
}

func NumberOf(n int) Value {
	if !isNumber(n) {
		n = 0
	}
	return Value{Nodes: single(Node{Kind: KindNumber, Num: n})}
}

func TextOf(s string) (Value, bool) {
	if !isPlain(s) {
		return Value{}, false
	}
	return Value{Nodes: single(Node{Kind: KindText, Text: s})}, true
}

func single(n Node) []Node {
	n.Up = -1
	return []Node{n}
}

func hasNode(v Value, k int) bool {
	return k >= 0 && k < len(v.Nodes) && GoodValue(v)
}

func isNumber(n int) bool {
	return -greatestNumber <= n && n <= greatestNumber
}

func isPlainByte(c byte) bool {
	return 32 <= c && c <= 126
}

func isPlain(s string) bool {
	if len(s) > MaxString {
		return false
	}
	for k := range len(s) {
		if !isPlainByte(s[k]) {
			return false
		}
	}
	return true
}

func hasParts(kind int) bool {
	return kind == KindList || kind == KindMap
}

func goodContent(n Node) bool {
	switch n.Kind {
	case KindNumber:
		return isNumber(n.Num) && n.Text == ""
	case KindText:
		return n.Num == 0 && isPlain(n.Text)
	case KindNull, KindFalse, KindTrue, KindList, KindMap:
		return n.Num == 0 && n.Text == ""
	}
	return false
}

// goodPlace takes all nodes ahead of k as good in their places: so going up from them ends.
func goodPlace(nodes []Node, k int) bool {
	n := nodes[k]
	if k == 0 {
		return n.Up == -1 && n.Name == ""
	}
	if n.Up < 0 || n.Up >= k {
		return false
	}
	at, sibling := k-1, -1
	for at > n.Up {
		at, sibling = nodes[at].Up, at
	}
	if at != n.Up {
		return false
	}
	switch nodes[n.Up].Kind {
	case KindList:
		return n.Name == ""
	case KindMap:
		return isPlain(n.Name) && (sibling < 0 || nodes[sibling].Name < n.Name)
	}
	return false
}

func deepest(nodes []Node) int {
	most := 0
	levels := make([]int, len(nodes))
	for k, n := range nodes {
		if k > 0 {
			levels[k] = levels[n.Up]
		}
		if hasParts(n.Kind) {
			levels[k]++
		}
		most = max(most, levels[k])
	}
	return most
}

func wordOf(kind int) string {
	switch kind {
	case KindNull:
		return "null"
	case KindFalse:
		return "false"
	case KindTrue:
		return "true"
	}
	return ""
}

func marksOf(kind int) (byte, byte) {
	if kind == KindMap {
		return '{', '}'
	}
	return '[', ']'
}

func tellNodes(nodes []Node) string {
	out, _ := appendNode(nil, nodes, 0)
	return string(out)
}

// appendNode answers also the number of the node behind all of k's own.
func appendNode(out []byte, nodes []Node, k int) ([]byte, int) {
	n := nodes[k]
	switch n.Kind {
	case KindNumber:
		return strconv.AppendInt(out, int64(n.Num), 10), k + 1
	case KindText:
		return appendQuoted(out, n.Text), k + 1
	case KindList, KindMap:
		return appendParts(out, nodes, k)
	}
	return append(out, wordOf(n.Kind)...), k + 1
}

func appendParts(out []byte, nodes []Node, k int) ([]byte, int) {
	opening, closing := marksOf(nodes[k].Kind)
	out = append(out, opening)
	next := k + 1
	for next < len(nodes) && nodes[next].Up == k {
		if next > k+1 {
			out = append(out, ',')
		}
		if nodes[k].Kind == KindMap {
			out = appendQuoted(out, nodes[next].Name)
			out = append(out, ':')
		}
		out, next = appendNode(out, nodes, next)
	}
	return append(out, closing), next
}

func appendQuoted(out []byte, s string) []byte {
	out = append(out, '"')
	for k := range len(s) {
		if s[k] == '"' || s[k] == '\\' {
			out = append(out, '\\')
		}
		out = append(out, s[k])
	}
	return append(out, '"')
}

type reader struct {
	text string
	at   int
}

// peek tells the end as the byte 0, which may stand nowhere in a text.
func (r *reader) peek() byte {
	if r.at >= len(r.text) {
		return 0
	}
	return r.text[r.at]
}

func (r *reader) take(mark byte) bool {
	if r.peek() != mark {
		return false
	}
	r.at++
	return true
}

func (r *reader) skipBlanks() {
	for r.peek() == ' ' || r.peek() == '\n' {
		r.at++
	}
}

func (r *reader) value(deep int) ([]Node, bool) {
	r.skipBlanks()
	nodes, ok := r.bareValue(deep)
	r.skipBlanks()
	return nodes, ok
}

func (r *reader) bareValue(deep int) ([]Node, bool) {
	sign := 1
	switch r.peek() {
	case '-':
		r.at++
		sign = -1
		fallthrough
	case '0', '1', '2', '3', '4', '5', '6', '7', '8', '9':
		return r.number(sign)
	case '"':
		s, ok := r.quoted()
		return single(Node{Kind: KindText, Text: s}), ok
	case '[':
		return r.holder(KindList, deep+1)
	case '{':
		return r.holder(KindMap, deep+1)
	}
	return r.word()
}

func (r *reader) number(sign int) ([]Node, bool) {
	first := r.at
	n := 0
	for n <= greatestNumber && '0' <= r.peek() && r.peek() <= '9' {
		n = 10*n + int(r.peek()-'0')
		r.at++
	}
	digits := r.text[first:r.at]
	if digits == "" || n > greatestNumber {
		return nil, false
	}
	if digits[0] == '0' && (len(digits) > 1 || sign < 0) {
		return nil, false
	}
	return single(Node{Kind: KindNumber, Num: sign * n}), true
}

func (r *reader) word() ([]Node, bool) {
	for kind := KindNull; kind <= KindTrue; kind++ {
		word := wordOf(kind)
		if strings.HasPrefix(r.text[r.at:], word) {
			r.at += len(word)
			return single(Node{Kind: kind}), true
		}
	}
	return nil, false
}

func (r *reader) quoted() (string, bool) {
	if !r.take('"') {
		return "", false
	}
	var out []byte
	for !r.take('"') {
		c, ok := r.letter()
		if !ok {
			return "", false
		}
		out = append(out, c)
	}
	return string(out), true
}

func (r *reader) letter() (byte, bool) {
	c := r.peek()
	if !isPlainByte(c) {
		return 0, false
	}
	r.at++
	if c == '\\' {
		return r.escaped()
	}
	return c, true
}

func (r *reader) escaped() (byte, bool) {
	c := r.peek()
	switch c {
	case '"', '\\', '/':
		r.at++
		return c, true
	case 'u':
		r.at++
		return r.numbered()
	}
	return 0, false
}

func (r *reader) numbered() (byte, bool) {
	n := 0
	for range 4 {
		digit, ok := hexDigit(r.peek())
		if !ok {
			return 0, false
		}
		n = 16*n + digit
		r.at++
	}
	if n > 126 || !isPlainByte(byte(n)) {
		return 0, false
	}
	return byte(n), true
}

func hexDigit(c byte) (int, bool) {
	switch {
	case '0' <= c && c <= '9':
		return int(c - '0'), true
	case 'a' <= c && c <= 'f':
		return int(c-'a') + 10, true
	case 'A' <= c && c <= 'F':
		return int(c-'A') + 10, true
	}
	return 0, false
}

func (r *reader) holder(kind int, deep int) ([]Node, bool) {
	// Asked on the way in: a text goes no deeper in calls than a good value does.
	if deep > MaxDeep {
		return nil, false
	}
	parts, ok := r.parts(kind, deep)
	if !ok {
		return nil, false
	}
	if kind == KindMap {
		slices.SortFunc(parts, func(a []Node, b []Node) int {
			return strings.Compare(a[0].Name, b[0].Name)
		})
	}
	return joinParts(kind, parts), true
}

func (r *reader) parts(kind int, deep int) ([][]Node, bool) {
	_, closing := marksOf(kind)
	// The opening mark has told the kind already.
	r.at++
	r.skipBlanks()
	if r.take(closing) {
		return nil, true
	}
	var parts [][]Node
	for {
		part, ok := r.part(kind, deep)
		if !ok {
			return nil, false
		}
		parts = append(parts, part)
		if r.take(closing) {
			return parts, true
		}
		if !r.take(',') {
			return nil, false
		}
	}
}

func (r *reader) part(kind int, deep int) ([]Node, bool) {
	if kind == KindList {
		return r.value(deep)
	}
	r.skipBlanks()
	name, ok := r.quoted()
	r.skipBlanks()
	if !ok || !r.take(':') {
		return nil, false
	}
	nodes, ok := r.value(deep)
	if !ok {
		return nil, false
	}
	nodes[0].Name = name
	return nodes, true
}

// joinParts moves each part's own numbers behind those of the parts ahead of it.
func joinParts(kind int, parts [][]Node) []Node {
	nodes := single(Node{Kind: kind})
	for _, part := range parts {
		first := len(nodes)
		for k, n := range part {
			if k == 0 {
				n.Up = 0
			} else {
				n.Up += first
			}
			nodes = append(nodes, n)
		}
	}
	return nodes
}
