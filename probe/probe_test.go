package probe_test

import (
	"math"
	"slices"
	"testing"

	"sodality/draw"
	"sodality/probe"
)

// The numbers of the chapter and of the words it leans on: how many nodes there may be, and how many places an order has at most.
const (
	nodes  = 8
	places = 64
)

// ints is numbers of any kind: small ones, those around the limits of nodes, and where integers of any width end.
func ints() []int {
	l := []int{math.MinInt, math.MinInt + 1, math.MinInt32, math.MaxInt32, math.MaxInt - 1, math.MaxInt, -256, 255, 256, 1 << 32, 1<<32 + 3, -1 << 32, 1 << 62, 63, 64, 65}
	for n := -9; n <= 17; n++ {
		l = append(l, n)
	}
	return l
}

// everybody is all the nodes.
func everybody() []int {
	return []int{0, 1, 2, 3, 4, 5, 6, 7}
}

// chance is numbers that follow from a seed.
type chance uint64

// below is the next number, from 0 to n-1.
func (c *chance) below(n int) int {
	*c = *c*6364136223846793005 + 1442695040888963407
	return int(uint64(*c)>>33) % n
}

// numbers is so many numbers to draw with.
func (c *chance) numbers(n int) []uint32 {
	l := make([]uint32, n)
	for i := range l {
		l[i] = uint32(c.below(1<<16)<<16 | c.below(1<<16))
	}
	return l
}

// live is any nodes, in any order, now and then twice, and now and then numbers that are no node.
func (c *chance) live() []int {
	var l []int
	for range c.below(12) {
		if c.below(15) == 0 {
			l = append(l, ints()[c.below(len(ints()))])
		} else {
			l = append(l, c.below(nodes))
		}
	}
	return l
}

// pick is the least number that draws i out of n.
func pick(i, n int) uint32 {
	return uint32((uint64(i)<<32 + uint64(n) - 1) / uint64(n))
}

// stream is the numbers to draw with, by the words of chapter 5.
type stream struct {
	l     []uint32
	taken int
}

// below is what P5.2 says of Below.
func (s *stream) below(n int) int {
	if n < 2 || s.taken == len(s.l) {
		return 0
	}
	x := s.l[s.taken]
	s.taken++
	return int(uint64(x) * uint64(n) / (1 << 32))
}

// order is what P5.3 says of Order.
func (s *stream) order(n int) []int {
	if n > places {
		n = places
	}
	var l []int
	for i := 0; i < n; i++ {
		l = append(l, i)
	}
	for i := n - 1; i >= 1; i-- {
		j := s.below(i + 1)
		x, y := l[i], l[j]
		l[i], l[j] = y, x
	}
	return l
}

// told is a ring by the words of the chapter: a list with a position, and what is drawn with.
type told struct {
	list []int
	at   int
	s    stream
}

// add is what P12.1 says of Add.
func (m *told) add(node int) bool {
	if !slices.Contains(everybody(), node) || slices.Contains(m.list, node) {
		return false
	}
	i := m.s.below(len(m.list) + 1)
	m.list = slices.Insert(slices.Clone(m.list), i, node)
	if i < m.at {
		m.at++
	}
	return true
}

// remove is what P12.2 says of Remove.
func (m *told) remove(node int) bool {
	for i, n := range m.list {
		if n == node {
			m.list = slices.Delete(slices.Clone(m.list), i, i+1)
			if i < m.at {
				m.at--
			}
			return true
		}
	}
	return false
}

// seek is what P12.3 says of the search.
func (m *told) seek(live []int) (int, bool) {
	for i := m.at; i < len(m.list); i++ {
		if slices.Contains(live, m.list[i]) {
			m.at = i + 1
			return m.list[i], true
		}
	}
	return 0, false
}

// next is what P12.3 says of Next.
func (m *told) next(live []int) (int, bool) {
	if node, is := m.seek(live); is {
		return node, true
	}
	order := m.s.order(len(m.list))
	l := make([]int, len(m.list))
	for k := range l {
		l[k] = m.list[order[k]]
	}
	m.list, m.at = l, 0
	if node, is := m.seek(live); is {
		return node, true
	}
	m.at = len(m.list)
	return 0, false
}

// others is what P12.4 says of Others.
func (m *told) others(live []int, but, many int) []int {
	var l []int
	for _, node := range live {
		if node != but {
			l = append(l, node)
		}
	}
	var out []int
	for k, i := range m.s.order(len(l)) {
		if k < many {
			out = append(out, l[i])
		}
	}
	return out
}

// pair is a ring, what it draws with, and a ring by the chapter's words.
type pair struct {
	t *testing.T
	r *probe.Ring
	d *draw.Draws
	m told
}

// both is a new ring, and one by the chapter's words, with numbers to draw with.
func both(t *testing.T, l ...uint32) *pair {
	t.Helper()
	p := &pair{t: t, r: probe.New(), d: draw.New(l), m: told{s: stream{l: l}}}
	p.agree()
	return p
}

// drawing is the pair with other numbers to draw with.
func (p *pair) drawing(l ...uint32) *pair {
	p.d, p.m.s = draw.New(l), stream{l: l}
	return p
}

// standing is a ring of the nodes in that order, with that position, and with numbers to draw with.
func standing(t *testing.T, list []int, at int, l ...uint32) *pair {
	t.Helper()
	p := both(t)
	for i := range list {
		if node := list[len(list)-1-i]; !p.r.Add(node, nil) || !p.m.add(node) {
			t.Fatalf("Add(%d) = false", node)
		}
	}
	for _, want := range list[:at] {
		if node, is := p.r.Next(everybody(), nil); node != want || !is {
			t.Fatalf("Next = %d, %t, want %d, of %v", node, is, want, list)
		}
		p.m.at++
	}
	p.drawing(l...).agree()
	return p
}

// agree fails where the ring tells something else than the chapter's words.
func (p *pair) agree() {
	p.t.Helper()
	if l := p.r.List(); !slices.Equal(l, p.m.list) {
		p.t.Fatalf("List = %v, want %v", l, p.m.list)
	}
	if at := p.r.At(); at != p.m.at {
		p.t.Fatalf("At = %d, want %d, of %v", at, p.m.at, p.m.list)
	}
	if n := p.d.Taken(); n != p.m.s.taken {
		p.t.Fatalf("%d numbers were taken, want %d, of %v", n, p.m.s.taken, p.m.list)
	}
}

// add adds to both, which must answer the same.
func (p *pair) add(node int) bool {
	p.t.Helper()
	got, want := p.r.Add(node, p.d), p.m.add(node)
	if got != want {
		p.t.Fatalf("Add(%d) = %t, want %t; the list is %v", node, got, want, p.m.list)
	}
	p.agree()
	return got
}

// remove removes from both, which must answer the same.
func (p *pair) remove(node int) bool {
	p.t.Helper()
	got, want := p.r.Remove(node), p.m.remove(node)
	if got != want {
		p.t.Fatalf("Remove(%d) = %t, want %t; the list is %v", node, got, want, p.m.list)
	}
	p.agree()
	return got
}

// next takes the next node of both, which must answer the same.
func (p *pair) next(live []int) (int, bool) {
	p.t.Helper()
	got, is := p.r.Next(live, p.d)
	want, wanted := p.m.next(live)
	if got != want || is != wanted {
		p.t.Fatalf("Next(%v) = %d, %t, want %d, %t; the list is %v", live, got, is, want, wanted, p.m.list)
	}
	p.agree()
	return got, is
}

// others selects some by both, which must answer the same.
func (p *pair) others(live []int, but, many int) []int {
	p.t.Helper()
	got, want := p.r.Others(live, but, many, p.d), p.m.others(live, but, many)
	if !slices.Equal(got, want) {
		p.t.Fatalf("Others(%v, %d, %d) = %v, want %v", live, but, many, got, want)
	}
	p.agree()
	return got
}

// subset is the nodes of a list whose bits are set.
func subset(list []int, bits int) []int {
	var l []int
	for i, node := range list {
		if bits>>i&1 == 1 {
			l = append(l, node)
		}
	}
	return l
}

// orders is, for each order of n places, the numbers that draw it.
func orders(n int) [][]uint32 {
	if n < 2 {
		return [][]uint32{nil}
	}
	var all [][]uint32
	for j := range n {
		for _, rest := range orders(n - 1) {
			all = append(all, append([]uint32{pick(j, n)}, rest...))
		}
	}
	return all
}

// full is a list with spare room that holds other numbers, which no call may touch.
func full(l []int) ([]int, func() bool) {
	all := append(slices.Clone(l), 91, 92, 93)
	before := slices.Clone(all)
	return all[:len(l)], func() bool { return slices.Equal(all, before) }
}

// The chapter's examples.
func TestExamples(t *testing.T) {
	r, d := probe.New(), draw.New(nil)
	for node := 1; node <= 3; node++ {
		if !r.Add(node, d) {
			t.Errorf("Add(%d) = false", node)
		}
	}
	if l := r.List(); !slices.Equal(l, []int{3, 2, 1}) {
		t.Errorf("List = %v", l)
	}
	for _, want := range []int{3, 2, 1, 2} {
		if node, is := r.Next([]int{1, 2, 3}, d); node != want || !is {
			t.Errorf("Next = %d, %t, want %d", node, is, want)
		}
	}
	if l := r.List(); !slices.Equal(l, []int{2, 1, 3}) || r.At() != 1 {
		t.Errorf("List = %v, At = %d", l, r.At())
	}
	if l := r.Others([]int{1, 2, 3}, 2, 1, d); !slices.Equal(l, []int{3}) {
		t.Errorf("Others = %v", l)
	}
}

// A new ring has no nodes, and its position is 0.
func TestNew(t *testing.T) {
	r := probe.New()
	if r == nil || len(r.List()) != 0 || r.At() != 0 {
		t.Errorf("New = %v", r)
	}
}

// P12.1: a node goes to the place that is drawn, out of one more than the list has, with each list, place and position; a place ahead of the position moves it, one at it or behind it does not.
func TestP121Places(t *testing.T) {
	for n := range nodes {
		list := everybody()[:n]
		for at := range n + 1 {
			for i := range n + 1 {
				p := standing(t, list, at, pick(i, n+1), 5)
				if !p.add(7) || slices.Index(p.r.List(), 7) != i || len(p.r.List()) != n+1 {
					t.Errorf("Add at %d of %v: List = %v", i, list, p.r.List())
				}
				want := at
				if i < at {
					want++
				}
				if p.r.At() != want {
					t.Errorf("Add at %d of %v, where the position was %d: At = %d", i, list, at, p.r.At())
				}
			}
		}
	}
}

// P12.1: the numbers around those from which on the next place is drawn, and the greatest one.
func TestP121Edges(t *testing.T) {
	for n := 1; n < nodes; n++ {
		for i := 1; i <= n; i++ {
			for _, x := range []uint32{pick(i, n+1) - 1, pick(i, n+1), math.MaxUint32, 0} {
				standing(t, everybody()[:n], n/2, x).add(7)
			}
		}
	}
}

// P12.1: the first node needs no number, each later one takes one, as long as there are some.
func TestP121Drawn(t *testing.T) {
	c := chance(1)
	for k := range nodes + 1 {
		p := both(t, c.numbers(k)...)
		for node := range nodes {
			if !p.add(node) || p.d.Taken() != min(node, k) {
				t.Fatalf("Add(%d) took up to %d numbers of %d", node, p.d.Taken(), k)
			}
		}
	}
}

// P12.1: without numbers each node goes to the front, and a position is moved by that unless it is 0.
func TestP121NoNumbers(t *testing.T) {
	for _, d := range []*draw.Draws{nil, {}, draw.New(nil)} {
		for at := range nodes {
			p := standing(t, everybody()[:7], at)
			if !p.r.Add(7, d) || !slices.Equal(p.r.List(), []int{7, 0, 1, 2, 3, 4, 5, 6}) || p.r.At() != min(at, 1)+at {
				t.Errorf("Add without numbers: List = %v, At = %d", p.r.List(), p.r.At())
			}
		}
	}
}

// P12.1: numbers that are no node are not added, and nothing is drawn for them.
func TestP121NoNode(t *testing.T) {
	for _, node := range ints() {
		for at := range 3 {
			p := standing(t, []int{1, 4}, at, 1<<31, 1<<30)
			if got := p.add(node); got != (node >= 0 && node < nodes && node != 1 && node != 4) {
				t.Errorf("Add(%d) = %t", node, got)
			}
		}
		p := both(t, 1<<31)
		if got := p.add(node); got != (node >= 0 && node < nodes) || p.d.Taken() != 0 {
			t.Errorf("Add(%d) to none = %t", node, got)
		}
	}
}

// P12.1: a node that is in the list is not added, wherever it is, and nothing is drawn for it; one that was removed is.
func TestP121Twice(t *testing.T) {
	for n := 1; n <= nodes; n++ {
		for at := range n + 1 {
			for node := range n {
				p := standing(t, everybody()[:n], at, 1<<31, 1<<31)
				if p.add(node) || p.d.Taken() != 0 {
					t.Errorf("Add(%d) = true, to %v", node, p.r.List())
				}
				if !p.remove(node) || !p.add(node) || p.add(node) {
					t.Errorf("Add(%d) behind Remove, to %v", node, p.r.List())
				}
			}
		}
	}
}

// P12.2: each node of each list is removed, at each position; one ahead of the position moves it back, the one at it or behind it does not.
func TestP122Places(t *testing.T) {
	for n := range nodes + 1 {
		list := []int{5, 3, 7, 0, 2, 6, 1, 4}[:n]
		for at := range n + 1 {
			for i, node := range list {
				p := standing(t, list, at, 1<<31)
				want := at
				if i < at {
					want--
				}
				if !p.remove(node) || len(p.r.List()) != n-1 || slices.Contains(p.r.List(), node) || p.r.At() != want || p.d.Taken() != 0 {
					t.Errorf("Remove(%d) of %v at %d: List = %v, At = %d", node, list, at, p.r.List(), p.r.At())
				}
				if p.remove(node) {
					t.Errorf("Remove(%d) once more = true", node)
				}
			}
		}
	}
}

// P12.2: what is not in the list is not removed, be it a node or none.
func TestP122NotThere(t *testing.T) {
	for _, list := range [][]int{nil, {2}, {6, 1, 3}, {7, 6, 5, 4, 3, 2, 1}} {
		for at := range len(list) + 1 {
			p := standing(t, list, at)
			for _, node := range ints() {
				if !slices.Contains(list, node) && p.remove(node) {
					t.Errorf("Remove(%d) = true, of %v", node, list)
				}
			}
		}
	}
}

// P12.2: a list is removed bit by bit in every order, and is empty in the end, with position 0.
func TestP122All(t *testing.T) {
	for _, numbers := range orders(5) {
		for at := range 6 {
			p := standing(t, []int{4, 2, 0, 3, 1}, at)
			for _, node := range draw.New(numbers).Order(5) {
				if !p.remove(node) {
					t.Errorf("Remove(%d) = false", node)
				}
			}
			if len(p.r.List()) != 0 || p.r.At() != 0 {
				t.Errorf("List = %v, At = %d", p.r.List(), p.r.At())
			}
		}
	}
}

// P12.3: the first node from the position on that lives is next, with all that may live and at every position; nothing is drawn then.
func TestP123Found(t *testing.T) {
	list := []int{5, 3, 7, 0, 2, 6, 1, 4}
	for n := range nodes + 1 {
		for bits := range 1 << n {
			live := subset(list[:n], bits)
			for at := range n + 1 {
				p := standing(t, list[:n], at, 1<<31, 0, 1<<30, 9, 1<<29)
				i := at
				for i < n && bits>>i&1 == 0 {
					i++
				}
				node, is := p.next(live)
				if i < n && (node != list[i] || !is || p.r.At() != i+1 || !slices.Equal(p.r.List(), list[:n]) || p.d.Taken() != 0) {
					t.Fatalf("Next(%v) = %d, %t of %v at %d: List = %v, At = %d", live, node, is, list[:n], at, p.r.List(), p.r.At())
				}
				if is != (len(live) > 0) {
					t.Fatalf("Next(%v) = %d, %t of %v at %d", live, node, is, list[:n], at)
				}
			}
		}
	}
}

// P12.3: where none lives from the position on the list is permuted by each order, and searched from its beginning.
func TestP123Permuted(t *testing.T) {
	list := []int{6, 2, 5, 0, 3}
	for n := range len(list) + 1 {
		for _, numbers := range orders(n) {
			order := draw.New(numbers).Order(n)
			for bits := range 1 << n {
				p := standing(t, list[:n], n, numbers...)
				live := subset(list[:n], bits)
				node, is := p.next(live)
				for k, i := range order {
					if p.r.List()[k] != list[i] {
						t.Fatalf("%v permuted by %v is %v", list[:n], order, p.r.List())
					}
				}
				i := slices.IndexFunc(p.r.List(), func(node int) bool { return slices.Contains(live, node) })
				if i < 0 && (node != 0 || is || p.r.At() != n) || i >= 0 && (node != p.r.List()[i] || !is || p.r.At() != i+1) {
					t.Fatalf("Next(%v) = %d, %t, behind %v: At = %d", live, node, is, p.r.List(), p.r.At())
				}
			}
		}
	}
}

// P12.3: orders of all the nodes, drawn with any numbers.
func TestP123Drawn(t *testing.T) {
	c := chance(2)
	for range 5000 {
		n := c.below(nodes + 1)
		p := standing(t, everybody()[:n], c.below(n+1), c.numbers(c.below(3*nodes))...)
		for range 20 {
			p.next(c.live())
		}
	}
}

// P12.3: one that lives ahead of the position alone is found in the new order, and not in the old one.
func TestP123Ahead(t *testing.T) {
	p := standing(t, []int{4, 1, 6}, 2, pick(0, 3), pick(1, 2))
	if node, is := p.next([]int{4, 1}); node != 1 || !is || p.r.At() != 2 || !slices.Equal(p.r.List(), []int{6, 1, 4}) {
		t.Errorf("Next = %d, %t: List = %v, At = %d", node, is, p.r.List(), p.r.At())
	}
}

// P12.3: where no node lives there is none, the position is behind the last one, and the list is permuted once a call.
func TestP123Nobody(t *testing.T) {
	for _, live := range [][]int{nil, {}, {7}, {-1, 8, math.MaxInt, math.MinInt}, {1 << 32, 1<<32 + 1, -1 << 32}} {
		for at := range 4 {
			p := standing(t, []int{0, 1, 2}, at)
			for _, want := range [][]int{{1, 2, 0}, {2, 0, 1}, {0, 1, 2}, {1, 2, 0}} {
				if node, is := p.next(live); node != 0 || is || p.r.At() != 3 || !slices.Equal(p.r.List(), want) {
					t.Errorf("Next(%v) = %d, %t: List = %v, At = %d", live, node, is, p.r.List(), p.r.At())
				}
			}
			p.drawing(1<<31, 1<<31, 1<<31)
			if p.next(live); p.d.Taken() != 2 {
				t.Errorf("Next(%v) took %d numbers", live, p.d.Taken())
			}
		}
	}
}

// P12.3: node 0 is a node like all others.
func TestP123Zero(t *testing.T) {
	p := standing(t, []int{3, 0}, 0)
	if node, is := p.next([]int{0}); node != 0 || !is || p.r.At() != 2 {
		t.Errorf("Next = %d, %t, At = %d", node, is, p.r.At())
	}
}

// P12.3: a ring without nodes has no next one, and nothing is drawn.
func TestP123Empty(t *testing.T) {
	for _, live := range [][]int{nil, {0}, everybody(), ints()} {
		p := both(t, 1<<31, 1<<31)
		if node, is := p.next(live); node != 0 || is || p.r.At() != 0 || p.d.Taken() != 0 {
			t.Errorf("Next(%v) = %d, %t", live, node, is)
		}
	}
	p := standing(t, []int{6}, 1, 1<<31)
	p.remove(6)
	if node, is := p.next([]int{6}); node != 0 || is {
		t.Errorf("Next behind Remove = %d, %t", node, is)
	}
}

// P12.3: in whatever order and however often those that live are told, and whatever else is among them.
func TestP123Told(t *testing.T) {
	for _, live := range [][]int{{2, 5}, {5, 2}, {5, 5, 2, 2, 5}, {-1, 5, 8, 2}, append([]int{2, math.MinInt, 1 << 32, 1<<32 + 3, 7, 5}, make([]int, 100)...)} {
		p := standing(t, []int{3, 5, 1, 2}, 0)
		for _, want := range []int{5, 2, 5, 2} {
			if node, is := p.next(live); node != want || !is {
				t.Errorf("Next(%v) = %d, %t, want %d", live, node, is, want)
			}
		}
	}
}

// P12.3: nobody else is found than whom the call is told to live, whoever lived at the last one.
func TestP123Changing(t *testing.T) {
	p := standing(t, []int{4, 2, 6}, 0)
	for _, x := range [][2]int{{2, 2}, {6, 3}, {6, 2}, {4, 3}, {6, 1}} {
		if node, is := p.next([]int{x[0]}); node != x[0] || !is || p.r.At() != x[1] {
			t.Errorf("Next of %d = %d, %t, At = %d: List = %v", x[0], node, is, p.r.At(), p.r.List())
		}
	}
}

// P12.4: each node but one, in each order, for each number of them.
func TestP124Orders(t *testing.T) {
	live := []int{3, 0, 7, 5, 2}
	for n := range len(live) + 1 {
		for _, numbers := range orders(n) {
			order := draw.New(numbers).Order(n)
			for many := -1; many <= n+1; many++ {
				for _, place := range []int{0, n / 2, n} {
					p := standing(t, []int{1, 4}, 1, numbers...)
					l := p.others(slices.Insert(slices.Clone(live[:n]), place, 6), 6, many)
					if len(l) != min(max(many, 0), n) || p.d.Taken() != max(n-1, 0) {
						t.Fatalf("Others of %d nodes, %d of them = %v, and took %d numbers", n, many, l, p.d.Taken())
					}
					for k, node := range l {
						if node != live[order[k]] {
							t.Fatalf("Others of %v by %v = %v", live[:n], order, l)
						}
					}
				}
			}
		}
	}
}

// P12.4: who is left out may not be there at all, may be no node, or may be there several times.
func TestP124But(t *testing.T) {
	for _, but := range ints() {
		for _, live := range [][]int{nil, {0}, {4}, everybody(), {2, 2, 3, 2, 1}, {1, 1, 1}, ints()} {
			for _, many := range []int{0, 1, 2, 100} {
				l := both(t, 1<<31, 1<<30, 7, 1<<29, 3<<30).others(live, but, many)
				if slices.Contains(l, but) {
					t.Errorf("Others(%v, %d, %d) = %v", live, but, many, l)
				}
			}
		}
	}
	p := both(t, 1<<31, 1<<31)
	if l := p.others([]int{5, 5, 5}, 5, 2); len(l) != 0 || p.d.Taken() != 0 {
		t.Errorf("Others of none = %v, and took %d numbers", l, p.d.Taken())
	}
	if l := p.others([]int{5, 3, 5}, 5, 2); !slices.Equal(l, []int{3}) || p.d.Taken() != 0 {
		t.Errorf("Others of one = %v, and took %d numbers", l, p.d.Taken())
	}
	if l := p.others([]int{3, 5, 3, 5}, 5, 2); !slices.Equal(l, []int{3, 3}) || p.d.Taken() != 1 {
		t.Errorf("Others of one that is told twice = %v, and took %d numbers", l, p.d.Taken())
	}
}

// P12.4: how many are wanted may be any number; all of the order is drawn for, however few they are.
func TestP124Many(t *testing.T) {
	c := chance(3)
	for _, many := range ints() {
		p := both(t, c.numbers(20)...)
		if l := p.others(everybody(), 3, many); len(l) != min(max(many, 0), 7) || p.d.Taken() != 6 {
			t.Errorf("Others of seven, %d of them = %v, and took %d numbers", many, l, p.d.Taken())
		}
	}
}

// P12.4: of more than an order has places the first ones alone are selected, which are counted without the one that is left out.
func TestP124Long(t *testing.T) {
	c := chance(4)
	for n := places - 3; n <= places+40; n++ {
		var live []int
		for i := range n {
			live = append(live, 100+i)
		}
		for _, but := range []int{0, 100, 102, 100 + n - 1} {
			for _, many := range []int{1, places - 1, places, places + 1, n, math.MaxInt} {
				p := both(t, c.numbers(2*places)...)
				if l := p.others(live, but, many); len(l) > places || slices.Max(l) > 100+places || slices.Contains(l, but) {
					t.Errorf("Others of %d nodes = %v", n, l)
				}
			}
		}
	}
}

// P12.4: those that live need not be in the ring, and the ring is not changed, whatever it has.
func TestP124Ring(t *testing.T) {
	c := chance(5)
	for range 5000 {
		n := c.below(nodes + 1)
		p := standing(t, everybody()[:n], c.below(n+1), c.numbers(c.below(2*nodes))...)
		for range 4 {
			p.others(c.live(), ints()[c.below(len(ints()))], c.below(10)-1)
		}
	}
}

// P12.4: without numbers each choice is the first one.
func TestP124NoNumbers(t *testing.T) {
	for _, d := range []*draw.Draws{nil, {}, draw.New(nil)} {
		if l := probe.New().Others([]int{4, 2, 6, 1, 0}, 6, 3, d); !slices.Equal(l, []int{2, 1, 0}) {
			t.Errorf("Others = %v", l)
		}
	}
}

// P12.5: List and At change nothing, and what List hands out can be changed.
func TestP125List(t *testing.T) {
	p := standing(t, []int{4, 2, 6, 1}, 3, 1<<31, 1<<31, 1<<30, 1<<30)
	for range 12 {
		for range 3 {
			l := p.r.List()
			clear(l)
			l = append(l, 9)
			_ = append(l[:0], 8, 8)
			p.agree()
		}
		p.next([]int{4, 6})
		p.add(p.m.at)
		p.remove(p.m.at)
	}
}

// P12.5: a ring that is not there, or that New did not make, does nothing, and takes no number.
func TestP125NoRing(t *testing.T) {
	for _, r := range []*probe.Ring{nil, {}, new(probe.Ring)} {
		for _, d := range []*draw.Draws{nil, draw.New([]uint32{1 << 31, 1 << 31, 1 << 31, 1 << 31})} {
			for _, node := range ints() {
				if r.Add(node, d) || r.Remove(node) {
					t.Fatalf("Add(%d) or Remove(%d) = true", node, node)
				}
				for _, live := range [][]int{nil, {node}, everybody(), ints()} {
					if got, is := r.Next(live, d); got != 0 || is {
						t.Fatalf("Next(%v) = %d, %t", live, got, is)
					}
					if l := r.Others(live, node, 3, d); len(l) != 0 {
						t.Fatalf("Others(%v, %d, 3) = %v", live, node, l)
					}
				}
				if l := r.List(); len(l) != 0 || r.At() != 0 || d.Taken() != 0 {
					t.Fatalf("List = %v, At = %d, and %d numbers were taken", l, r.At(), d.Taken())
				}
			}
		}
	}
}

// within fails where one that lives is not returned within 2n-1 calls, and answers in how many all of them were.
func within(t *testing.T, r *probe.Ring, d *draw.Draws, live []int) int {
	t.Helper()
	seen := map[int]bool{}
	calls := 0
	for len(seen) < len(live) {
		node, is := r.Next(live, d)
		if calls++; !is || !slices.Contains(live, node) || calls > 2*len(live)-1 {
			t.Fatalf("call %d of Next(%v) = %d, %t: List = %v", calls, live, node, is, r.List())
		}
		seen[node] = true
	}
	return calls
}

// P12.6: each of n that live is returned within 2n-1 calls, from each list, each position and each two orders on; and there is one that it takes as many.
func TestP126Orders(t *testing.T) {
	list := []int{2, 7, 0, 5}
	for n := 1; n <= len(list); n++ {
		longest := 0
		for bits := 1; bits < 1<<n; bits++ {
			live := subset(list[:n], bits)
			for at := range n + 1 {
				for _, one := range orders(n) {
					for _, two := range orders(n) {
						p := standing(t, list[:n], at, slices.Concat(one, two)...)
						longest = max(longest, within(t, p.r, p.d, live))
					}
				}
			}
		}
		if longest != 2*n-1 {
			t.Errorf("of %d nodes it takes %d calls", n, longest)
		}
	}
}

// P12.6: with all the nodes, through many rounds, from any point on.
func TestP126Any(t *testing.T) {
	c := chance(6)
	for range 400 {
		n := 1 + c.below(nodes)
		p := standing(t, everybody()[:n], c.below(n+1), c.numbers(1000)...)
		for range 20 {
			if live := subset(everybody()[:n], c.below(1<<n)); len(live) > 0 {
				for range c.below(2 * n) {
					p.r.Next(live, p.d)
				}
				within(t, p.r, p.d, live)
			}
		}
	}
}

// P12.6: who lives but is not in the list is never returned, and the others are in time.
func TestP126NotInList(t *testing.T) {
	p := standing(t, []int{3, 1, 6}, 0, 1<<31, 0, 1<<31, 1<<30)
	for range 40 {
		if node, is := p.next(everybody()); !is || !slices.Contains([]int{1, 3, 6}, node) {
			t.Fatalf("Next = %d, %t", node, is)
		}
	}
}

// P12.1 to P12.5: through any calls a ring does as the chapter's words have it.
func TestAny(t *testing.T) {
	c := chance(7)
	for range 1500 {
		p := both(t, c.numbers(c.below(200))...)
		for range 120 {
			node := c.below(nodes)
			if c.below(10) == 0 {
				node = ints()[c.below(len(ints()))]
			}
			switch c.below(6) {
			case 0, 1:
				p.add(node)
			case 2:
				p.remove(node)
			case 3, 4:
				p.next(c.live())
			default:
				p.others(c.live(), node, c.below(10)-1)
			}
		}
	}
}

// R3: the lists that are handed in are not changed, nor what lies behind them, and they are not kept.
func TestGiven(t *testing.T) {
	for bits := range 1 << nodes {
		p := standing(t, []int{5, 3, 7, 0, 2}, bits%6, 1<<31, 1<<30, 7, 1<<29, 1, 2, 3, 1<<31, 1<<31)
		live, same := full(subset(everybody(), bits))
		p.next(live)
		out := p.others(live, 3, 4)
		if !same() {
			t.Fatalf("a list that was handed in became %v", live)
		}
		kept := slices.Clone(out)
		clear(live)
		if !slices.Equal(out, kept) {
			t.Fatalf("Others hands out what it was given: %v", out)
		}
		live = slices.Clone(everybody())
		clear(p.others(live, -1, 8))
		if !slices.Equal(live, everybody()) {
			t.Fatalf("Others hands out what it was given: %v", live)
		}
		p.agree()
	}
}

// R4: two rings share nothing, even if they draw with the same numbers.
func TestTwo(t *testing.T) {
	c := chance(8)
	for range 300 {
		one, two := both(t, c.numbers(60)...), both(t, c.numbers(60)...)
		for range 60 {
			p, other := one, two
			if c.below(2) == 0 {
				p, other = two, one
			}
			switch c.below(4) {
			case 0:
				p.remove(c.below(nodes))
			case 1:
				p.next(c.live())
			default:
				p.add(c.below(nodes))
			}
			other.agree()
		}
	}
	d := draw.New([]uint32{1 << 31, 1 << 30, 1 << 31})
	a, b := probe.New(), probe.New()
	if !a.Add(1, d) || !b.Add(1, d) || !a.Add(2, d) || !b.Add(2, d) || d.Taken() != 2 || !slices.Equal(a.List(), []int{1, 2}) || !slices.Equal(b.List(), []int{2, 1}) {
		t.Errorf("List = %v and %v, and %d numbers were taken", a.List(), b.List(), d.Taken())
	}
}
