package tests

import (
	"fmt"
	"math/big"
	"slices"
	"strings"
	"testing"

	"loop.example/parametric/impl"
)

// A plainModel is a model with the sets of types in it, all elements of which are listed.
type plainModel struct {
	names []string
	sizes []int
	sets  map[string]*plainSet
}

// modelOf returns the model that a text like "a2 b3" tells.
func modelOf(text string) *plainModel {
	m := &plainModel{sets: map[string]*plainSet{}}
	for _, word := range strings.Fields(text) {
		m.names = append(m.names, word[:1])
		m.sizes = append(m.sizes, int(word[1]-'0'))
	}
	return m
}

func (m *plainModel) String() string {
	text := ""
	for i, name := range m.names {
		text += fmt.Sprint(name, m.sizes[i], " ")
	}
	return text
}

// exact returns the count of a type, or nil if it is not known. The numbers may have any size.
func (m *plainModel) exact(t oneType) *big.Int {
	if len(t.parts) == 0 {
		place := slices.Index(m.names, t.atom)
		switch {
		case t.atom == "o":
			return big.NewInt(2)
		case place >= 0:
			return big.NewInt(int64(m.sizes[place]))
		}
		return nil
	}
	left, right := m.exact(t.parts[0]), m.exact(t.parts[1])
	if left == nil || right == nil {
		return nil
	}
	n := new(big.Int).Mul(left, right)
	if t.atom == ">" {
		n = new(big.Int).Exp(right, left, nil)
	}
	if n.Cmp(big.NewInt(impl.CountMax)) > 0 {
		return nil
	}
	return n
}

func (m *plainModel) count(t oneType) int {
	n := m.exact(t)
	if n == nil || t.size() > 400 {
		return -1
	}
	return int(n.Int64())
}

// A plainSet tells the elements of a set by what they are made of, in the order of their numbers, so that no test has to calculate one.
type plainSet struct {
	list [][]int
	find map[string]int
}

func (s *plainSet) add(parts ...int) {
	s.find[fmt.Sprint(parts)] = len(s.list)
	s.list = append(s.list, parts)
}

// set returns the set of a type, the count of which is known.
func (m *plainModel) set(t oneType) *plainSet {
	text := t.String()
	if old := m.sets[text]; old != nil {
		return old
	}
	s := &plainSet{find: map[string]int{}}
	switch t.atom {
	case "*":
		for first := range m.count(t.parts[0]) {
			for second := range m.count(t.parts[1]) {
				s.add(first, second)
			}
		}
	case ">":
		s.addTables(m.count(t.parts[0]), m.count(t.parts[1]))
	default:
		for x := range m.count(t) {
			s.add(x)
		}
	}
	m.sets[text] = s
	return s
}

// addTables adds all tables of a number of elements. The first element changes most often.
func (s *plainSet) addTables(length int, count int) {
	table := make([]int, length)
	for {
		s.add(slices.Clone(table)...)
		place := 0
		for place < length && table[place] == count-1 {
			table[place] = 0
			place++
		}
		if place == length {
			return
		}
		table[place]++
	}
}

// readType reads a text that is a type.
func readType(s string) oneType {
	t, _ := readTypeFront(s)
	return t
}

func readTypeFront(s string) (oneType, string) {
	if s[0] != '(' {
		return leaf(s[:1]), s[1:]
	}
	left, rest := readTypeFront(s[3:])
	right, rest := readTypeFront(rest[1:])
	return node(s[1:2], left, right), rest[1:]
}

// fixed makes each variable of a type one of its own kind, for which no type can be put.
func (t oneType) fixed() oneType {
	by := map[string]oneType{}
	for _, name := range t.names() {
		by[name] = node("!"+name, leaf("o"), leaf("o"))
	}
	return t.put(by)
}

// told returns a type with its fixed variables as they were and with o for all others. The number of atoms that are left becomes less than 0 if it has too many.
func (p *plainTyping) told(x oneType, left *int) oneType {
	x = p.front(x)
	*left--
	name, fixed := strings.CutPrefix(x.atom, "!")
	switch {
	case fixed:
		return leaf(name)
	case x.isVariable():
		return leaf("o")
	case *left < 0 || len(x.parts) == 0:
		return x
	}
	first := p.told(x.parts[0], left)
	return node(x.atom, first, p.told(x.parts[1], left))
}

// counted returns a term with its types as they are told, or false if the count of one of them is not known.
func (p *plainTyping) counted(part typedPart, m *plainModel) (typedPart, bool) {
	left := 400
	part.kind = p.told(part.kind, &left)
	if left < 0 || m.count(part.kind) < 0 {
		return part, false
	}
	kids := []typedPart{}
	for _, kid := range part.kids {
		done, ok := p.counted(kid, m)
		if !ok {
			return part, false
		}
		kids = append(kids, done)
	}
	part.kids = kids
	return part, true
}

// A plainMeaning finds what terms mean by looking up each element of each function.
type plainMeaning struct {
	model *plainModel
	fuel  int
}

func (m *plainMeaning) of(p typedPart, around map[string]int) int {
	m.fuel--
	if m.fuel < 0 {
		return 0
	}
	if p.head == "lam" {
		return m.ofLam(p, around)
	}
	of := []int{}
	for _, kid := range p.kids {
		of = append(of, m.of(kid, around))
	}
	// made returns what a part of the term is made of.
	made := func(part int) []int { return m.model.set(p.kids[part].kind).list[of[part]] }
	switch p.head {
	case "true":
		return 1
	case "false":
		return 0
	case "app":
		return made(0)[of[1]]
	case "pair":
		return m.model.set(p.kind).find[fmt.Sprint(of)]
	case "fst":
		return made(0)[0]
	case "snd":
		return made(0)[1]
	case "if":
		return of[2-of[0]]
	}
	return around[p.head]
}

func (m *plainMeaning) ofLam(p typedPart, around map[string]int) int {
	table := []int{}
	for x := range m.model.count(p.kind.parts[0]) {
		within := map[string]int{p.name: x}
		for name, y := range around {
			if name != p.name {
				within[name] = y
			}
		}
		table = append(table, m.of(p.kids[0], within))
	}
	return m.model.set(p.kind).find[fmt.Sprint(table)]
}

// plainMean returns what a closed term means as one of a type, and true, or false if it means nothing. The element is -1 if it takes too long to find.
func plainMean(x oneTerm, kind string, m *plainModel) (int, bool) {
	x, ok := x.unfolded(impl.TermMax)
	if !ok || !impl.TypeValid(kind) {
		return 0, false
	}
	p := &plainTyping{puts: map[string]oneType{}}
	part, ok := p.typed(x, map[string]oneType{})
	if !ok || !p.equal(part.kind, readType(kind).fixed()) {
		return 0, false
	}
	part, ok = p.counted(part, m)
	if !ok {
		return 0, false
	}
	meaning := &plainMeaning{model: m, fuel: 20000}
	element := meaning.of(part, map[string]int{})
	if meaning.fuel < 0 {
		return -1, true
	}
	return element, true
}

// checkMean compares what a closed term means with what the tests find on their own, and tells whether it means something that they find.
func checkMean(t *testing.T, x oneTerm, kind string, m *plainModel) bool {
	t.Helper()
	s := x.String()
	element, ok := impl.Mean(s, kind, m.names, m.sizes)
	want, known := plainMean(x, kind, m)
	if ok != known || element != want && want >= 0 {
		t.Errorf("Mean(%q, %q, %s) returns %d, %v and not %d, %v", short(s), kind, m, element, ok, want, known)
	}
	return known && want >= 0
}

// modelFor returns a model for a type: mostly one that has all of its variables, and sometimes more.
func (d *dice) modelFor(kind string) *plainModel {
	m := &plainModel{sets: map[string]*plainSet{}}
	letters, _ := impl.TypeVars(kind)
	for _, more := range []string{"y", "x", "a"} {
		if d.below(3) == 0 && !slices.Contains(letters, more) {
			letters = append(letters, more)
		}
	}
	for len(letters) > 0 {
		k := d.below(len(letters))
		if d.below(25) > 0 {
			m.names = append(m.names, letters[k])
			m.sizes = append(m.sizes, []int{1, 1, 2, 2, 2, 3, 4}[d.below(7)])
		}
		letters = slices.Delete(letters, k, k+1)
	}
	return m
}

// overNames returns a closed term of a type with variables, which has names for these, and this type.
func (d *dice) overNames() (oneTerm, oneType) {
	around := []kindName{{"y9", leaf("a")}}
	if d.below(2) == 0 {
		around = append(around, kindName{"z9", leaf("b")})
	}
	if d.below(3) == 0 {
		around = append(around, kindName{"u9", leaf("a")})
	}
	kind := d.typeOf([]int{1, 1, 3, 3, 5}[d.below(5)], "oa")
	x := d.typed(kind, around, 1+d.below(3))
	for _, n := range around {
		x, kind = lam(n.name, x), node(">", n.kind, kind)
	}
	return x, kind
}

// A meanCase is a term with a type that it has, in a model.
type meanCase struct {
	x     oneTerm
	kind  string
	model *plainModel
}

// meanCases returns closed terms with types that they have, principal ones and others, in models that have the variables of the types, or most of them.
func meanCases(t *testing.T, seed int) []meanCase {
	t.Helper()
	d := dice(seed)
	all := []meanCase{}
	add := func(x oneTerm, kind string) {
		if x.size() <= impl.TermMax && impl.TypeSize(kind) <= 15 {
			all = append(all, meanCase{x, kind, d.modelFor(kind)})
		}
	}
	for _, x := range typedTerms(t, append(closedTerms(seed), calculations()...)) {
		add(read(x.s), x.kind)
		for _, kind := range d.kindsNear(x.kind) {
			if d.below(3) == 0 && impl.InferHas(x.s, kind) {
				add(read(x.s), kind)
			}
		}
	}
	for range 2500 {
		kind := d.typeOf([]int{1, 1, 3, 3, 5}[d.below(5)], "o")
		add(d.typed(kind, nil, 1+d.below(4)), kind.String())
		x, over := d.overNames()
		add(x, over.String())
	}
	return all
}
