package impl

import (
	"slices"
	"strings"
)

// TextMax is the greatest number of bytes of a type or a term.
const TextMax = 6000

// TypeMax is the greatest number of atoms of a type.
const TypeMax = 40

// PutsMax is the greatest number of types that are put for variables.
const PutsMax = 26

// typeLetters are the variables in canonical order; o is left out because it means truth values.
const typeLetters = "abcdefghijklmnpqrstuvwxyz"

// Signs of types. A variable has none, as it is told by its number.
const (
	functionSign = ">"
	pairSign     = "*"
	truthSign    = "o"
	variableSign = ""
)

// A typeNode is a type of a pool. It never changes, so other types of the pool share it.
type typeNode struct {
	sign   string
	number int // of a variable: its index in typeLetters, or more if it is no text yet
	left   *typeNode
	right  *typeNode
	size   int
	place  int // how many types of the pool are older
}

// compound reports whether a type has parts.
func (n *typeNode) compound() bool {
	return n.left != nil
}

// typeKey is what makes types of a pool differ: a sign with the places of both parts, or the number of a variable.
type typeKey struct {
	sign   string
	first  int
	second int
}

// A typePool holds each type once, so that equal types of it are equal pointers.
type typePool struct {
	nodes map[typeKey]*typeNode
}

func newTypePool() *typePool {
	return &typePool{nodes: map[typeKey]*typeNode{}}
}

func (p *typePool) share(key typeKey, fresh typeNode) *typeNode {
	if old := p.nodes[key]; old != nil {
		return old
	}
	fresh.sign = key.sign
	fresh.place = len(p.nodes)
	p.nodes[key] = &fresh
	return &fresh
}

func (p *typePool) truth() *typeNode {
	return p.share(typeKey{sign: truthSign}, typeNode{size: 1})
}

func (p *typePool) variable(number int) *typeNode {
	return p.share(typeKey{sign: variableSign, first: number}, typeNode{number: number, size: 1})
}

func (p *typePool) parts(sign string, left *typeNode, right *typeNode) *typeNode {
	key := typeKey{sign: sign, first: left.place, second: right.place}
	return p.share(key, typeNode{left: left, right: right, size: 1 + left.size + right.size})
}

// A textReader reads from the front of a text.
type textReader struct {
	text  string // what is not read yet
	atoms int    // how many are read
}

func (r *textReader) skip(front string) bool {
	rest, ok := strings.CutPrefix(r.text, front)
	r.text = rest
	return ok
}

// A typeReader reads a type.
type typeReader struct {
	textReader
	pool  *typePool
	shift int // is added to the number of each variable
}

// read returns the type that a text is, or nil. The shift keeps its variables apart from those of other texts.
func (p *typePool) read(text string, shift int) *typeNode {
	if len(text) > TextMax {
		return nil
	}
	r := &typeReader{textReader: textReader{text: text}, pool: p, shift: shift}
	n := r.next()
	if r.text != "" {
		return nil
	}
	return n
}

func (r *typeReader) next() *typeNode {
	r.atoms++
	if r.text == "" || r.atoms > TypeMax {
		return nil
	}
	if number := strings.IndexByte(typeLetters, r.text[0]); number >= 0 {
		r.text = r.text[1:]
		return r.pool.variable(r.shift + number)
	}
	switch {
	case r.skip("o"):
		return r.pool.truth()
	case r.skip("(> "):
		return r.nextParts(functionSign)
	case r.skip("(* "):
		return r.nextParts(pairSign)
	}
	return nil
}

func (r *typeReader) nextParts(sign string) *typeNode {
	left := r.next()
	if left == nil || !r.skip(" ") {
		return nil
	}
	right := r.next()
	if right == nil || !r.skip(")") {
		return nil
	}
	return r.pool.parts(sign, left, right)
}

// typeText writes a type, the variables of which must have letters.
func typeText(n *typeNode) string {
	if n.compound() {
		return "(" + n.sign + " " + typeText(n.left) + " " + typeText(n.right) + ")"
	}
	if n.sign == variableSign {
		return typeLetters[n.number : n.number+1]
	}
	return n.sign
}

// typeVariables returns the variables in the order in which each one stands first.
func typeVariables(n *typeNode) []*typeNode {
	return addVariables(nil, n)
}

func addVariables(found []*typeNode, n *typeNode) []*typeNode {
	if n.compound() {
		return addVariables(addVariables(found, n.left), n.right)
	}
	if n.sign == variableSign && !slices.Contains(found, n) {
		found = append(found, n)
	}
	return found
}

// put replaces variables, which are told by their numbers, all at once.
func (p *typePool) put(n *typeNode, by map[int]*typeNode) *typeNode {
	if n.compound() {
		return p.parts(n.sign, p.put(n.left, by), p.put(n.right, by))
	}
	if n.sign == variableSign && by[n.number] != nil {
		return by[n.number]
	}
	return n
}

func (p *typePool) canon(n *typeNode) *typeNode {
	by := map[int]*typeNode{}
	for i, v := range typeVariables(n) {
		by[v.number] = p.variable(i)
	}
	return p.put(n, by)
}

// matchType reports whether types for the variables of a general type make a special one of it.
// It keeps in by what they are; the variables of the special type stay as they are.
func matchType(general *typeNode, special *typeNode, by map[int]*typeNode) bool {
	switch {
	case general.sign == variableSign:
		if by[general.number] == nil {
			by[general.number] = special
		}
		return by[general.number] == special
	case general.compound():
		return general.sign == special.sign && matchType(general.left, special.left, by) && matchType(general.right, special.right, by)
	}
	return general == special
}

// A typeUnion keeps which types of a pool have been joined, as classes.
type typeUnion struct {
	pool    *typePool
	leaders map[int]*typeNode // by the place of a type: another one that is nearer to the leader of its class
	settled map[int]*typeNode // by the place of a leader: what its class becomes, or nil while its parts are asked
}

func newTypeUnion(pool *typePool) *typeUnion {
	return &typeUnion{pool: pool, leaders: map[int]*typeNode{}, settled: map[int]*typeNode{}}
}

func (u *typeUnion) leader(n *typeNode) *typeNode {
	up := u.leaders[n.place]
	if up == nil {
		return n
	}
	top := u.leader(up)
	u.leaders[n.place] = top
	return top
}

// join makes one class of the classes of two types, and of those of their parts in turn.
// It reports whether no signs are against each other; whether a type is a part of itself is left to settle.
func (u *typeUnion) join(a *typeNode, b *typeNode) bool {
	a, b = u.leader(a), u.leader(b)
	if a == b {
		return true
	}
	if a.sign == variableSign {
		u.leaders[a.place] = b
		return true
	}
	if b.sign == variableSign {
		u.leaders[b.place] = a
		return true
	}
	if a.sign != b.sign {
		return false
	}
	// Both have parts, as there is just one type of truth values in a pool.
	// The union comes first: types that lead back to themselves would be joined for ever without it.
	u.leaders[a.place] = b
	return u.join(a.left, b.left) && u.join(a.right, b.right)
}

// settle returns what a type becomes. It returns nil if this is a part of itself or has more than TypeMax atoms.
func (u *typeUnion) settle(n *typeNode) *typeNode {
	n = u.leader(n)
	if !n.compound() {
		return n
	}
	if done, asked := u.settled[n.place]; asked {
		return done
	}
	u.settled[n.place] = nil
	left := u.settle(n.left)
	if left == nil {
		return nil
	}
	right := u.settle(n.right)
	if right == nil || 1+left.size+right.size > TypeMax {
		return nil
	}
	done := u.pool.parts(n.sign, left, right)
	u.settled[n.place] = done
	return done
}

// canonText returns the canonical text of what a type becomes, and true. It fails if settle does.
func (u *typeUnion) canonText(n *typeNode) (string, bool) {
	done := u.settle(n)
	if done == nil {
		return "", false
	}
	return typeText(u.pool.canon(done)), true
}

// joinTypes returns the canonical text of what two types become when they are joined, and true.
func joinTypes(pool *typePool, a *typeNode, b *typeNode) (string, bool) {
	union := newTypeUnion(pool)
	if !union.join(a, b) {
		return "", false
	}
	return union.canonText(a)
}

// standsOnly reports whether a variable stands nowhere negative, or nowhere positive, in a type.
func standsOnly(positive bool, n *typeNode, variable *typeNode) bool {
	if n.compound() {
		inLeft := positive
		if n.sign == functionSign {
			inLeft = !positive
		}
		return standsOnly(inLeft, n.left, variable) && standsOnly(positive, n.right, variable)
	}
	return positive || n != variable
}

// readVariable returns the variable that a text is, or nil.
func (p *typePool) readVariable(text string) *typeNode {
	n := p.read(text, 0)
	if n == nil || n.sign != variableSign {
		return nil
	}
	return n
}

// TypeValid reports whether a text is a type.
func TypeValid(s string) bool {
	return newTypePool().read(s, 0) != nil
}

// TypeVars returns the variables of a type in the order in which each one stands first, and true.
func TypeVars(s string) ([]string, bool) {
	names := []string{}
	n := newTypePool().read(s, 0)
	if n == nil {
		return names, false
	}
	for _, v := range typeVariables(n) {
		names = append(names, typeText(v))
	}
	return names, true
}

// TypeParts returns both types S and T of a type (> S T) or (* S T) and its sign, and true.
func TypeParts(s string) (string, string, string, bool) {
	n := newTypePool().read(s, 0)
	if n == nil || !n.compound() {
		return "", "", "", false
	}
	return typeText(n.left), typeText(n.right), n.sign, true
}

// TypeCanon returns the canonical type that is alike, and true.
func TypeCanon(s string) (string, bool) {
	pool := newTypePool()
	n := pool.read(s, 0)
	if n == nil {
		return "", false
	}
	return typeText(pool.canon(n)), true
}

// TypeAlike reports whether two texts are types that are alike.
func TypeAlike(a string, b string) bool {
	pool := newTypePool()
	first, second := pool.read(a, 0), pool.read(b, 0)
	return first != nil && second != nil && pool.canon(first) == pool.canon(second)
}

// TypePut returns a type with types put for variables, as many as there are variables in a list, of which none stands twice, and true.
func TypePut(s string, names []string, by []string) (string, bool) {
	pool := newTypePool()
	n := pool.read(s, 0)
	if n == nil || len(names) != len(by) || len(names) > PutsMax {
		return "", false
	}
	puts := map[int]*typeNode{}
	for i, name := range names {
		v, t := pool.readVariable(name), pool.read(by[i], 0)
		if v == nil || t == nil || puts[v.number] != nil {
			return "", false
		}
		puts[v.number] = t
	}
	result := pool.put(n, puts)
	if result.size > TypeMax {
		return "", false
	}
	return typeText(result), true
}

// TypeInstance reports whether the second one of two texts is a type that is an instance of the first one, a type.
func TypeInstance(a string, b string) bool {
	pool := newTypePool()
	general, special := pool.read(a, 0), pool.read(b, 0)
	return general != nil && special != nil && matchType(general, special, map[int]*typeNode{})
}

// TypeJoin returns the canonical type that is alike to what two types become when they are joined in the most general way, and true.
func TypeJoin(a string, b string) (string, bool) {
	pool := newTypePool()
	first, second := pool.read(a, 0), pool.read(b, 0)
	if first == nil || second == nil {
		return "", false
	}
	return joinTypes(pool, first, second)
}

// TypeApart returns what TypeJoin does if the variables of the second type are first renamed so that none of them is one of the first type, and true.
func TypeApart(a string, b string) (string, bool) {
	pool := newTypePool()
	first, second := pool.read(a, 0), pool.read(b, len(typeLetters))
	if first == nil || second == nil {
		return "", false
	}
	if len(typeVariables(first))+len(typeVariables(second)) > len(typeLetters) {
		return "", false
	}
	return joinTypes(pool, first, second)
}

// TypePositive reports whether a variable stands nowhere negative in a type.
func TypePositive(s string, name string) bool {
	pool := newTypePool()
	n, v := pool.read(s, 0), pool.readVariable(name)
	return n != nil && v != nil && standsOnly(true, n, v)
}

// TypeNegative reports whether a variable stands nowhere positive in a type.
func TypeNegative(s string, name string) bool {
	pool := newTypePool()
	n, v := pool.read(s, 0), pool.readVariable(name)
	return n != nil && v != nil && standsOnly(false, n, v)
}

// TypeSize returns the number of atoms of a type, or -1 if the text is none.
func TypeSize(s string) int {
	n := newTypePool().read(s, 0)
	if n == nil {
		return -1
	}
	return n.size
}
