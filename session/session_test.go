package session_test

import (
	"math"
	"slices"
	"testing"

	"sodality/api"
	"sodality/session"
)

// The numbers of the chapter and of the words it leans on: how many sessions and nodes there may be, the errors, and the greatest index.
const (
	mostRows  = 64
	mostNodes = 8
	errNil    = 1
	errArg    = 2
	errNone   = 4
	errFull   = 5
	errTwice  = 20
	greatest  = math.MaxUint64
)

// ints is numbers of any kind: those around the limits of rows and nodes, and where integers of any width end.
func ints() []int {
	l := []int{math.MinInt, math.MinInt + 1, math.MinInt32, math.MaxInt32, math.MaxInt - 1, math.MaxInt, -256, 255, 256, 264, 1 << 32, 1<<32 + 3, -1 << 32, 1 << 62}
	for n := -9; n <= 70; n++ {
		l = append(l, n)
	}
	return l
}

// numbers is small indexes, those around where narrower numbers end or turn their sign, and those of each digit and each count of digits, decimal or not.
func numbers() []uint64 {
	l := []uint64{0, 255, 256, 1<<31 - 1, 1 << 31, 1<<32 - 1, 1 << 32, 1<<53 + 1, 1<<63 - 1, 1 << 63, greatest - 1, greatest}
	for n := uint64(1); n < 36; n++ {
		l = append(l, n)
	}
	for n := range 64 {
		l = append(l, uint64(1)<<n, uint64(3)<<n, uint64(1)<<n-1)
	}
	for n := uint64(10); n < greatest/10; n *= 10 {
		l = append(l, n-1, n, n+1, n*9)
	}
	slices.Sort(l)
	return slices.Compact(l)
}

// few is some of the numbers.
func few() []uint64 {
	return []uint64{0, 1, 2, 9, 10, 15, 16, 17, 99, 100, 255, 256, 1<<32 - 1, 1 << 32, 1<<32 + 1, 1<<53 + 1, 1<<63 - 1, 1 << 63, greatest - 1, greatest}
}

// right asks whether a number may be a node.
func right(node int) bool {
	return node >= 0 && node <= mostNodes-1
}

// chance is numbers that follow from a seed.
type chance uint64

// below is the next number, from 0 to n-1.
func (c *chance) below(n int) int {
	*c = *c*6364136223846793005 + 1442695040888963407
	return int(uint64(*c)>>33) % n
}

// number is any number: mostly one of a few, so that they often meet.
func (c *chance) number(few int) uint64 {
	if c.below(12) == 0 {
		return numbers()[c.below(len(numbers()))]
	}
	return uint64(c.below(few))
}

// node is any node, mostly one that may be.
func (c *chance) node() int {
	if c.below(15) == 0 {
		return ints()[c.below(len(ints()))]
	}
	return c.below(mostNodes)
}

// The functions that modify.
const (
	open      = "Open"
	closeOne  = "Close"
	closeNode = "CloseNode"
)

// call is a call that modifies: each function takes some of the fields.
type call struct {
	of        string
	node      int
	id, index uint64
}

// done is what a call answers: each function has some of the fields.
type done struct {
	id  uint64
	err api.Errno
	l   []uint64
}

// same asks whether two answers are equal.
func (d done) same(other done) bool {
	return d.id == other.id && d.err == other.err && slices.Equal(d.l, other.l)
}

// do is the call at sessions.
func (c call) do(s *session.Sessions) done {
	switch c.of {
	case open:
		id, err := s.Open(c.node, c.index)
		return done{id: id, err: err}
	case closeOne:
		return done{err: s.Close(c.id, c.index)}
	}
	return done{l: s.CloseNode(c.node, c.index)}
}

// any is any call.
func (c *chance) any(index uint64) call {
	of := []string{open, open, open, closeOne, closeNode}[c.below(5)]
	return call{of, c.node(), c.number(30), index}
}

// told is sessions by the words of the chapter: their capacity, the last index, and the sessions in no order.
type told struct {
	most int
	last uint64
	l    []api.Session
}

// place is where the session with a number is, or -1.
func (m *told) place(id uint64) int {
	return slices.IndexFunc(m.l, func(s api.Session) bool { return s.Id == id })
}

// open is what P18.1 says of Open.
func (m *told) open(node int, index uint64) (uint64, api.Errno) {
	switch {
	case !right(node) || index == 0:
		return 0, errArg
	case m.place(index) >= 0:
		return 0, errTwice
	case len(m.l) == m.most:
		return 0, errFull
	}
	// It goes ahead of the others, so that they are in no order here.
	m.l = append([]api.Session{{Id: index, Node: node, Make: index, Index: index}}, m.l...)
	m.last = max(m.last, index)
	return index, api.OK
}

// close is what P18.2 says of Close.
func (m *told) close(id, index uint64) api.Errno {
	at := m.place(id)
	if at < 0 {
		return errNone
	}
	m.l = slices.Delete(m.l, at, at+1)
	m.last = max(m.last, index)
	return api.OK
}

// closeNode is what P18.2 says of CloseNode.
func (m *told) closeNode(node int, index uint64) []uint64 {
	var l []uint64
	for _, s := range slices.Clone(m.l) {
		if s.Node == node {
			m.close(s.Id, index)
			l = append(l, s.Id)
		}
	}
	slices.Sort(l)
	return l
}

// do is what the chapter says of a call.
func (m *told) do(c call) done {
	switch c.of {
	case open:
		id, err := m.open(c.node, c.index)
		return done{id: id, err: err}
	case closeOne:
		return done{err: m.close(c.id, c.index)}
	}
	return done{l: m.closeNode(c.node, c.index)}
}

// list is what P18.3 says of List.
func (m *told) list() []api.Session {
	l := slices.Clone(m.l)
	for i := range l {
		for k := range i {
			if l[i].Id < l[k].Id {
				l[i], l[k] = l[k], l[i]
			}
		}
	}
	return l
}

// copy is others of which all is as of these.
func (m *told) copy() *told {
	return &told{m.most, m.last, slices.Clone(m.l)}
}

// clamped is what P15.1 says of a capacity.
func clamped(most int) int {
	if most < 1 {
		return 1
	}
	if most > mostRows {
		return mostRows
	}
	return most
}

// both is no sessions, and none by the chapter's words.
func both(t *testing.T, most int) (*session.Sessions, *told) {
	t.Helper()
	s := session.New(most)
	if s == nil {
		t.Fatalf("New(%d) = nil", most)
	}
	return s, &told{most: clamped(most)}
}

// agree fails where sessions tell something else than the chapter's words.
func agree(t *testing.T, s *session.Sessions, m *told) {
	t.Helper()
	if got := s.Last(); got != m.last {
		t.Fatalf("Last = %d, want %d", got, m.last)
	}
	l := m.list()
	if got := s.List(); !slices.Equal(got, l) {
		t.Fatalf("List = %v, want %v", got, l)
	}
	for _, want := range l {
		for _, id := range []uint64{want.Id - 1, want.Id, want.Id + 1} {
			gets(t, s, m, id)
		}
	}
	for _, id := range few() {
		gets(t, s, m, id)
	}
}

// gets fails where Get answers something else than the chapter's words.
func gets(t *testing.T, s *session.Sessions, m *told, id uint64) {
	t.Helper()
	var want api.Session
	at := m.place(id)
	if at >= 0 {
		want = m.l[at]
	}
	if got, is := s.Get(id); got != want || is != (at >= 0) {
		t.Fatalf("Get(%d) = %v, %t, want %v, %t", id, got, is, want, at >= 0)
	}
}

// doBoth does a call at both, which must answer the same.
func doBoth(t *testing.T, s *session.Sessions, m *told, c call) done {
	t.Helper()
	before := m.list()
	got := c.do(s)
	if want := m.do(c); !got.same(want) {
		t.Fatalf("%+v = %v, want %v, of %v", c, got, want, before)
	}
	agree(t, s, m)
	return got
}

// opens opens a session at both, with what it must come to.
func opens(t *testing.T, s *session.Sessions, m *told, node int, index uint64, want api.Errno) {
	t.Helper()
	if got := doBoth(t, s, m, call{of: open, node: node, index: index}); got.err != want || (got.id == index) != (want == api.OK || index == 0) {
		t.Fatalf("Open(%d, %d) = %d, %d, want %d", node, index, got.id, got.err, want)
	}
}

// closes closes a session at both, with what it must come to.
func closes(t *testing.T, s *session.Sessions, m *told, id, index uint64, want api.Errno) {
	t.Helper()
	if got := doBoth(t, s, m, call{of: closeOne, id: id, index: index}); got.err != want {
		t.Fatalf("Close(%d, %d) = %d, want %d", id, index, got.err, want)
	}
}

// closesNode closes a node's sessions at both, with the numbers that they must have.
func closesNode(t *testing.T, s *session.Sessions, m *told, node int, index uint64, want ...uint64) {
	t.Helper()
	if got := doBoth(t, s, m, call{of: closeNode, node: node, index: index}); !slices.Equal(got.l, want) {
		t.Fatalf("CloseNode(%d, %d) = %v, want %v", node, index, got.l, want)
	}
}

// sample is both with room for one more: sessions of nodes 2, 0, 2 and 7.
func sample(t *testing.T) (*session.Sessions, *told) {
	t.Helper()
	s, m := both(t, 5)
	opens(t, s, m, 2, 16, api.OK)
	opens(t, s, m, 0, 3, api.OK)
	opens(t, s, m, 2, 9, api.OK)
	opens(t, s, m, 7, 1<<40, api.OK)
	return s, m
}

// The chapter's examples.
func TestExamples(t *testing.T) {
	s := session.New(8)
	for _, c := range []struct {
		node  int
		index uint64
		id    uint64
		err   api.Errno
	}{{2, 7, 7, api.OK}, {2, 7, 0, errTwice}, {8, 8, 0, errArg}, {3, 0, 0, errArg}, {2, 9, 9, api.OK}} {
		if id, err := s.Open(c.node, c.index); id != c.id || err != c.err {
			t.Errorf("Open(%d, %d) = %d, %d, want %d, %d", c.node, c.index, id, err, c.id, c.err)
		}
	}
	if l := s.CloseNode(2, 10); !slices.Equal(l, []uint64{7, 9}) {
		t.Errorf("CloseNode = %v", l)
	}
	if err := s.Close(7, 11); err != errNone {
		t.Errorf("Close = %d", err)
	}
}

// P18.1: there are none at first, and there is room for as many as were told, but for one at least and 64 at most.
func TestP181New(t *testing.T) {
	for _, most := range ints() {
		s, m := both(t, most)
		agree(t, s, m)
		for i := range mostRows + 6 {
			index, want := uint64(i+1), api.OK
			if i >= m.most {
				want = errFull
			}
			if id, err := s.Open(i%mostNodes, index); err != want || (id == index) != (want == api.OK) {
				t.Fatalf("session %d into a New(%d): %d, %d, want %d", i, most, id, err, want)
			}
		}
		if len(s.List()) != m.most || s.Last() != uint64(m.most) {
			t.Fatalf("New(%d) has %d sessions, and the last index %d", most, len(s.List()), s.Last())
		}
	}
}

// P18.1: a session of each node, with each number; its number is its index.
func TestP181Open(t *testing.T) {
	for node := range mostNodes {
		for _, index := range numbers() {
			s, m := both(t, 2)
			if index == 0 {
				opens(t, s, m, node, index, errArg)
				continue
			}
			opens(t, s, m, node, index, api.OK)
			if got, is := s.Get(index); !is || got != (api.Session{Id: index, Node: node, Make: index, Index: index}) {
				t.Fatalf("Get(%d) = %v, %t", index, got, is)
			}
		}
	}
}

// P18.1: a number that is no node has ErrArg, and so has the index 0, with room and without, whatever is there already.
func TestP181Arg(t *testing.T) {
	s, m := sample(t)
	full, n := sample(t)
	opens(t, full, n, 1, 4, api.OK)
	for _, node := range ints() {
		for _, index := range append(few(), 3, 4, 5) {
			if right(node) && index != 0 {
				continue
			}
			for _, x := range []*session.Sessions{s, full} {
				if id, err := x.Open(node, index); id != 0 || err != errArg {
					t.Errorf("Open(%d, %d) = %d, %d, want ErrArg", node, index, id, err)
				}
			}
		}
	}
	agree(t, s, m)
	agree(t, full, n)
}

// P18.1: there is one session of a number at most, whichever its node; ErrTwice is ahead of ErrFull.
func TestP181Twice(t *testing.T) {
	for most := 1; most <= 3; most++ {
		s, m := both(t, most)
		for i := range most {
			opens(t, s, m, 3, uint64(40-i), api.OK)
		}
		for node := range mostNodes {
			for i := range most {
				opens(t, s, m, node, uint64(40-i), errTwice)
			}
			opens(t, s, m, node, 41, errFull)
			opens(t, s, m, node, 1, errFull)
		}
	}
	for _, index := range numbers()[1:] {
		s, m := both(t, 2)
		opens(t, s, m, 0, index, api.OK)
		opens(t, s, m, 0, index, errTwice)
		opens(t, s, m, 7, index, errTwice)
	}
}

// P18.1: where it is full no other one comes, till one has gone, or a node's have.
func TestP181Full(t *testing.T) {
	for most := 1; most <= mostRows; most++ {
		s, m := both(t, most)
		for i := range most {
			s.Open(i%mostNodes, uint64(100+i))
			m.open(i%mostNodes, uint64(100+i))
		}
		opens(t, s, m, 1, 300, errFull)
		opens(t, s, m, 1, 7, errFull)
		opens(t, s, m, 1, 100, errTwice)
		opens(t, s, m, 8, 300, errArg)
		closes(t, s, m, 300, 301, errNone)
		closes(t, s, m, 100, 302, api.OK)
		opens(t, s, m, 1, 100, api.OK)
		opens(t, s, m, 1, 304, errFull)
		doBoth(t, s, m, call{of: closeNode, node: 1, index: 305})
		opens(t, s, m, 1, 306, api.OK)
	}
}

// P18.1: no two numbers meet: each is a session of its own, and can go alone.
func TestP181Numbers(t *testing.T) {
	all := numbers()[1:]
	for begin := 0; begin < len(all); begin += mostRows {
		part := all[begin:min(begin+mostRows, len(all))]
		s, m := both(t, mostRows)
		for _, at := range shuffled(len(part), uint64(begin)) {
			opens(t, s, m, at%mostNodes, part[at], api.OK)
		}
		for _, at := range shuffled(len(part), uint64(begin+1)) {
			opens(t, s, m, 3, part[at], map[bool]api.Errno{true: errTwice, false: errFull}[m.place(part[at]) >= 0])
			closes(t, s, m, part[at], 1, api.OK)
			closes(t, s, m, part[at], 1, errNone)
		}
	}
	for _, one := range few()[1:] {
		for _, two := range few()[1:] {
			s, m := both(t, 2)
			opens(t, s, m, 1, one, api.OK)
			if one != two {
				opens(t, s, m, 1, two, api.OK)
			} else {
				opens(t, s, m, 1, two, errTwice)
			}
		}
	}
}

// shuffled is the numbers from 0 to n-1 in any order.
func shuffled(n int, seed uint64) []int {
	l := make([]int, n)
	c := chance(seed)
	for i := range l {
		k := c.below(i + 1)
		l[i] = l[k]
		l[k] = i
	}
	return l
}

// P18.2: Close removes just the session of the number, at each index, also a lower one; a number that is none has ErrNone.
func TestP182Close(t *testing.T) {
	for _, id := range few() {
		for _, index := range few() {
			s, m := sample(t)
			want := api.Errno(errNone)
			if m.place(id) >= 0 {
				want = api.OK
			}
			closes(t, s, m, id, index, want)
			closes(t, s, m, id, index, errNone)
			s, m = both(t, 2)
			closes(t, s, m, id, index, errNone)
		}
	}
	s, m := sample(t)
	for i, id := range []uint64{1 << 40, 9, 3, 16} {
		for _, other := range []uint64{0, 1, 2, 4, 5, 8, 10, 15, 17, 25, 1<<40 - 1, 1<<40 + 1, 1 << 39, 1 << 41, greatest} {
			closes(t, s, m, other, 1<<50, errNone)
		}
		closes(t, s, m, id, uint64(i), api.OK)
		if len(s.List()) != 3-i {
			t.Fatalf("List = %v", s.List())
		}
	}
}

// P18.2: a number can be given again when its session has gone: to another node too.
func TestP182Again(t *testing.T) {
	s, m := both(t, 2)
	opens(t, s, m, 1, 7, api.OK)
	opens(t, s, m, 1, 8, api.OK)
	closes(t, s, m, 7, 9, api.OK)
	opens(t, s, m, 5, 7, api.OK)
	closesNode(t, s, m, 1, 10, 8)
	closesNode(t, s, m, 5, 11, 7)
	opens(t, s, m, 6, 8, api.OK)
	if got, is := s.Get(8); !is || got != (api.Session{Id: 8, Node: 6, Make: 8, Index: 8}) || s.Last() != 11 {
		t.Errorf("Get = %v, %t, Last = %d", got, is, s.Last())
	}
}

// P18.2: CloseNode removes all sessions of a node, and no others; a number that is no node has none.
func TestP182CloseNode(t *testing.T) {
	for _, node := range ints() {
		for _, index := range few() {
			s, m := sample(t)
			before := s.Last()
			want := map[int][]uint64{0: {3}, 2: {9, 16}, 7: {1 << 40}}[node]
			closesNode(t, s, m, node, index, want...)
			if last := s.Last(); len(want) == 0 && last != before {
				t.Fatalf("CloseNode(%d, %d) of none raised Last to %d", node, index, last)
			}
			closesNode(t, s, m, node, index)
			s, m = both(t, 2)
			closesNode(t, s, m, node, index)
		}
	}
}

// P18.2: CloseNode's numbers ascend, in whatever order the sessions were opened: as numbers do, not as their texts.
func TestP182Order(t *testing.T) {
	all := numbers()[1:]
	for begin := 0; begin+mostRows <= len(all); begin += mostRows / 2 {
		s, m := both(t, mostRows)
		for _, at := range shuffled(mostRows, uint64(begin)) {
			opens(t, s, m, 4, all[begin+at], api.OK)
		}
		closesNode(t, s, m, 4, 5, all[begin:begin+mostRows]...)
	}
	s, m := both(t, mostRows)
	want := map[int][]uint64{}
	for _, at := range shuffled(mostRows, 7) {
		opens(t, s, m, at%3, uint64(95+at), api.OK)
	}
	for at := range mostRows {
		want[at%3] = append(want[at%3], uint64(95+at))
	}
	for _, node := range []int{1, 3, 0, 2} {
		closesNode(t, s, m, node, 500, want[node]...)
	}
}

// P18.3: Get has a session by its number, and nothing of any other one.
func TestP183Get(t *testing.T) {
	s, m := sample(t)
	for _, want := range []api.Session{{Id: 16, Node: 2, Make: 16, Index: 16}, {Id: 3, Make: 3, Index: 3}, {Id: 9, Node: 2, Make: 9, Index: 9}, {Id: 1 << 40, Node: 7, Make: 1 << 40, Index: 1 << 40}} {
		if got, is := s.Get(want.Id); got != want || !is {
			t.Errorf("Get(%d) = %v, %t", want.Id, got, is)
		}
	}
	empty, n := both(t, 3)
	for _, id := range numbers() {
		gets(t, s, m, id)
		gets(t, empty, n, id)
	}
}

// P18.3: List has all sessions, the lower numbers first, in whatever order they were opened.
func TestP183List(t *testing.T) {
	s, _ := sample(t)
	want := []api.Session{{Id: 3, Make: 3, Index: 3}, {Id: 9, Node: 2, Make: 9, Index: 9}, {Id: 16, Node: 2, Make: 16, Index: 16}, {Id: 1 << 40, Node: 7, Make: 1 << 40, Index: 1 << 40}}
	if l := s.List(); !slices.Equal(l, want) {
		t.Errorf("List = %v, want %v", l, want)
	}
	for _, one := range few()[1:] {
		for _, two := range few()[1:] {
			if one == two {
				continue
			}
			s := session.New(2)
			s.Open(7, one)
			s.Open(0, two)
			if l := s.List(); len(l) != 2 || l[0].Id != min(one, two) || l[1].Id != max(one, two) {
				t.Errorf("List of %d and %d = %v", one, two, l)
			}
		}
	}
	all := numbers()[1:]
	for begin := 0; begin+mostRows <= len(all); begin++ {
		s, m := session.New(mostRows), &told{most: mostRows}
		for _, at := range shuffled(mostRows, uint64(begin)) {
			s.Open(at%mostNodes, all[begin+at])
			m.open(at%mostNodes, all[begin+at])
		}
		l := s.List()
		if !slices.Equal(l, m.list()) {
			t.Fatalf("List = %v, want %v", l, m.list())
		}
		for i := range l {
			if l[i].Id != all[begin+i] {
				t.Fatalf("List has %d at place %d, want %d", l[i].Id, i, all[begin+i])
			}
		}
	}
}

// P18.3: each modification gives its index, and what is refused, or closes nothing, does not.
func TestP183Last(t *testing.T) {
	s, m := both(t, 2)
	last := func(want uint64) {
		t.Helper()
		if got := s.Last(); got != want {
			t.Fatalf("Last = %d, want %d", got, want)
		}
	}
	last(0)
	opens(t, s, m, 1, 5, api.OK)
	last(5)
	opens(t, s, m, 1, 3, api.OK)
	last(5)
	opens(t, s, m, 1, 9, errFull)
	opens(t, s, m, 8, 9, errArg)
	closes(t, s, m, 4, 9, errNone)
	closesNode(t, s, m, 2, 9)
	closesNode(t, s, m, -1, 9)
	last(5)
	closes(t, s, m, 3, 4, api.OK)
	last(5)
	opens(t, s, m, 2, 7, api.OK)
	last(7)
	closes(t, s, m, 7, 8, api.OK)
	last(8)
	closesNode(t, s, m, 1, 6, 5)
	last(8)
	opens(t, s, m, 1, 6, api.OK)
	closesNode(t, s, m, 1, 11, 6)
	last(11)
	opens(t, s, m, 1, greatest, api.OK)
	last(greatest)
}

// P18.3: Open and Close with each two indexes, also falling ones: the last one is the greatest.
func TestP183Indexes(t *testing.T) {
	for _, first := range few()[1:] {
		for _, then := range few() {
			for _, of := range []string{closeOne, closeNode} {
				s, m := both(t, 3)
				opens(t, s, m, 6, first, api.OK)
				doBoth(t, s, m, call{of, 6, first, then})
				if len(s.List()) != 0 || s.Last() != max(first, then) {
					t.Errorf("%s at %d of a session of %d: List %v, Last %d", of, then, first, s.List(), s.Last())
				}
			}
		}
	}
}

// P18.3: a copy has all that there is, the capacity too, and each goes on by itself.
func TestP183Copy(t *testing.T) {
	c := chance(2)
	for range 60 {
		s, m := both(t, 1+c.below(9))
		for range c.below(40) {
			doBoth(t, s, m, c.any(c.number(40)))
		}
		other, n := s.Copy(), m.copy()
		agree(t, other, n)
		for range 30 {
			doBoth(t, s, m, c.any(c.number(40)))
			agree(t, other, n)
			doBoth(t, other, n, c.any(c.number(40)))
			agree(t, s, m)
		}
	}
	empty, m := both(t, 1)
	other, n := empty.Copy(), m.copy()
	opens(t, other, n, 1, 1, api.OK)
	opens(t, other, n, 1, 2, errFull)
	agree(t, empty, m)
}

// sessions is sessions that may be loaded with the last index 1<<40.
func sessions() []api.Session {
	var l []api.Session
	for i, id := range []uint64{1, 9, 10, 16, 255, 1 << 32, 1 << 40} {
		l = append(l, api.Session{Id: id, Node: (i + 7) % mostNodes, Make: id, Index: id})
	}
	return l
}

// loaded fails where sessions that may be loaded are not, with all that they have.
func loaded(t *testing.T, most int, l []api.Session, last uint64) (*session.Sessions, *told) {
	t.Helper()
	given := slices.Clone(l)
	s, err := session.Load(most, l, last)
	if err != api.OK || s == nil {
		t.Fatalf("Load(%d, %v, %d) = %v, %d", most, l, last, s, err)
	}
	if !slices.Equal(l, given) {
		t.Fatalf("Load turned its argument to %v", l)
	}
	m := &told{clamped(most), last, given}
	agree(t, s, m)
	return s, m
}

// unloaded fails where sessions that may not be loaded are.
func unloaded(t *testing.T, most int, l []api.Session, last uint64) {
	t.Helper()
	given := slices.Clone(l)
	if s, err := session.Load(most, l, last); s != nil || err != errArg {
		t.Errorf("Load(%d, %v, %d) = %v, %d", most, l, last, s, err)
	}
	if !slices.Equal(l, given) {
		t.Errorf("Load turned its argument to %v", l)
	}
}

// P18.4: Load has exactly the sessions, with all their fields, and the last index, and goes on from there.
func TestP184Load(t *testing.T) {
	for n := range len(sessions()) + 1 {
		for _, last := range []uint64{1 << 40, 1<<40 + 1, greatest} {
			s, m := loaded(t, 8, sessions()[:n], last)
			opens(t, s, m, 3, 30, api.OK)
			loaded(t, 8, sessions()[n:], last)
		}
	}
	for _, last := range numbers() {
		loaded(t, 3, nil, last)
		loaded(t, 3, []api.Session{}, last)
		for node := range mostNodes {
			if last > 0 {
				loaded(t, 1, []api.Session{{Id: last, Node: node, Make: last, Index: last}}, last)
			}
		}
	}
	s, m := loaded(t, 7, sessions(), 1<<41)
	opens(t, s, m, 1, 30, errFull)
	opens(t, s, m, 1, 255, errTwice)
	closes(t, s, m, 255, 40, api.OK)
	opens(t, s, m, 1, 30, api.OK)
	closesNode(t, s, m, 1, 1<<42, 10, 30)
	if s.Last() != 1<<42 {
		t.Errorf("Last = %d", s.Last())
	}
}

// P18.4: a session at each place that may not be.
func TestP184Wrong(t *testing.T) {
	for at := range sessions() {
		with := func(turn func(s *api.Session)) []api.Session {
			l := sessions()
			turn(&l[at])
			return l
		}
		for _, node := range ints() {
			l := with(func(s *api.Session) { s.Node = node })
			if right(node) {
				loaded(t, 9, l, 1<<40)
			} else {
				unloaded(t, 9, l, 1<<40)
				unloaded(t, 9, l[at:at+1], 1<<40)
			}
		}
		for _, number := range few() {
			if number == sessions()[at].Id {
				continue
			}
			for _, l := range [][]api.Session{
				with(func(s *api.Session) { s.Id = number }),
				with(func(s *api.Session) { s.Make = number }),
				with(func(s *api.Session) { s.Index = number }),
				with(func(s *api.Session) { s.Id, s.Make = number, number }),
				with(func(s *api.Session) { s.Id, s.Index = number, number }),
				with(func(s *api.Session) { s.Make, s.Index = number, number }),
			} {
				unloaded(t, 9, l, greatest)
				unloaded(t, 9, l[at:at+1], greatest)
			}
		}
		unloaded(t, 9, with(func(s *api.Session) { *s = api.Session{Node: s.Node} }), greatest)
		unloaded(t, 9, with(func(s *api.Session) { *s = api.Session{} }), greatest)
		unloaded(t, 9, sessions()[:at+1], sessions()[at].Id-1)
		loaded(t, 9, sessions()[:at+1], sessions()[at].Id)
		unloaded(t, 9, sessions(), uint64(at))
	}
	unloaded(t, 9, []api.Session{{}}, 5)
	unloaded(t, 9, []api.Session{{}}, 0)
	unloaded(t, 9, make([]api.Session, 2), 0)
}

// P18.4: each two numbers may be loaded just where they ascend, and no number twice, whatever its node.
func TestP184Order(t *testing.T) {
	for _, one := range numbers() {
		for _, two := range numbers() {
			l := []api.Session{{Id: one, Node: 1, Make: one, Index: one}, {Id: two, Node: 2, Make: two, Index: two}}
			s, err := session.Load(9, l, greatest)
			if may := 0 < one && one < two; may != (err == api.OK) || may != (s != nil) || !may && err != errArg {
				t.Fatalf("Load(%v) = %v, %d", l, s, err)
			}
		}
	}
	for i := range sessions() {
		twice := slices.Insert(sessions(), i, sessions()[i])
		unloaded(t, 9, twice, 1<<40)
		twice[i].Node = (twice[i].Node + 1) % mostNodes
		unloaded(t, 9, twice, 1<<40)
		unloaded(t, 9, append(sessions(), sessions()[i]), 1<<40)
		for k := range i {
			l := sessions()
			l[i], l[k] = l[k], l[i]
			unloaded(t, 9, l, 1<<40)
		}
	}
}

// P18.4: as many sessions as the capacity allows, for each capacity and those beyond its bounds.
func TestP184Most(t *testing.T) {
	var l []api.Session
	for i := range uint64(mostRows + 40) {
		l = append(l, api.Session{Id: i + 1, Node: int(i % mostNodes), Make: i + 1, Index: i + 1})
	}
	for _, most := range ints() {
		room := clamped(most)
		s, m := loaded(t, most, l[:room], 200)
		opens(t, s, m, 1, 201, errFull)
		if room > 1 {
			s, m = loaded(t, most, l[:room-1], 200)
			opens(t, s, m, 1, 201, api.OK)
			opens(t, s, m, 1, 202, errFull)
		}
		unloaded(t, most, l[:room+1], 200)
		unloaded(t, most, l, 200)
	}
}

// P18.4: sessions that are loaded from their List and Last are equal, and do the same from then on, however indexes go.
func TestP184Loaded(t *testing.T) {
	c := chance(3)
	for range 20 {
		most := c.below(mostRows+3) - 1
		s, m := both(t, most)
		for range 80 {
			doBoth(t, s, m, c.any(c.number(80)))
		}
		other, err := session.Load(most, s.List(), s.Last())
		if err != api.OK {
			t.Fatalf("Load(%v, %d): error %d", s.List(), s.Last(), err)
		}
		n := m.copy()
		agree(t, other, n)
		for range 40 {
			x := c.any(c.number(80))
			doBoth(t, s, m, x)
			doBoth(t, other, n, x)
		}
	}
}

// P18.4: sessions that are not there, or that no call made, have ErrNil, whatever else is wrong, and do nothing else.
func TestP184NoSessions(t *testing.T) {
	for _, s := range []*session.Sessions{nil, {}, new(session.Sessions)} {
		for range 2 {
			for _, node := range ints() {
				for _, number := range few() {
					if id, err := s.Open(node, number); id != 0 || err != errNil {
						t.Errorf("Open(%d, %d) = %d, %d", node, number, id, err)
					}
					if err := s.Close(number, uint64(node)); err != errNil {
						t.Errorf("Close(%d, %d) = %d", number, node, err)
					}
					if l := s.CloseNode(node, number); len(l) != 0 {
						t.Errorf("CloseNode(%d, %d) = %v", node, number, l)
					}
					if got, is := s.Get(number); got != (api.Session{}) || is {
						t.Errorf("Get(%d) = %v, %t", number, got, is)
					}
				}
			}
			if s.Last() != 0 || len(s.List()) != 0 || s.Copy() != nil {
				t.Errorf("Last %d, List %v, Copy %v", s.Last(), s.List(), s.Copy())
			}
		}
	}
}

// P18.5: through any calls no session has the number 0, and no two have the same.
func TestP185Numbers(t *testing.T) {
	c := chance(4)
	for range 60 {
		s, m := both(t, c.below(20)-1)
		for range 60 {
			x := c.any(c.number(30))
			before := s.List()
			got := doBoth(t, s, m, x)
			if x.of == open && got.err == api.OK && (got.id == 0 || slices.ContainsFunc(before, func(o api.Session) bool { return o.Id == got.id })) {
				t.Fatalf("Open gave the number %d, of %v", got.id, before)
			}
			seen := map[uint64]int{}
			for _, o := range s.List() {
				seen[o.Id]++
				if o.Id == 0 || seen[o.Id] > 1 || o.Make != o.Id || o.Index != o.Id {
					t.Fatalf("behind %+v there is %v", x, o)
				}
			}
		}
	}
	for _, node := range ints() {
		for _, most := range []int{1, 2, mostRows} {
			s, m := both(t, most)
			opens(t, s, m, node, 0, errArg)
		}
	}
}

// P18.1 to P18.3: each function with each kind of node, number and index, with room and without; what is refused leaves no trace.
func TestErrors(t *testing.T) {
	for _, of := range []string{open, closeOne, closeNode} {
		for _, node := range []int{-1, 0, 1, 2, 7, 8, math.MaxInt, math.MinInt} {
			for _, id := range []uint64{0, 3, 4, 9, 16, 1 << 40, greatest} {
				for _, index := range []uint64{0, 3, 4, 9, 16, 1 << 40, greatest} {
					c := call{of, node, id, index}
					s, m := sample(t)
					doBoth(t, s, m, c)
					s, m = sample(t)
					opens(t, s, m, 5, 7, api.OK)
					doBoth(t, s, m, c)
				}
			}
		}
	}
}

// P18.1 to P18.3: through any calls the sessions do as the chapter's words have it.
func TestAny(t *testing.T) {
	c := chance(7)
	for range 150 {
		s, m := both(t, c.below(12)-1)
		for range 60 {
			doBoth(t, s, m, c.any(c.number(30)))
		}
	}
}

// R3: what List and CloseNode answer shares no memory with the sessions, nor with another answer.
func TestResults(t *testing.T) {
	s, m := sample(t)
	other, n := s.Copy(), m.copy()
	for range 3 {
		list := s.List()
		for _, l := range [][]api.Session{s.List(), other.List()} {
			for l := l[:cap(l)]; len(l) > 0; l = l[1:] {
				l[0] = api.Session{Id: 99, Node: 1, Make: 2, Index: 3}
			}
		}
		if !slices.Equal(list, m.list()) {
			t.Fatalf("an answer was changed by way of another: %v", list)
		}
		agree(t, s, m)
		agree(t, other, n)
	}
	m.closeNode(2, 20)
	n.closeNode(2, 20)
	one, two := s.CloseNode(2, 20), other.CloseNode(2, 20)
	clear(one[:cap(one)])
	if !slices.Equal(two, []uint64{9, 16}) {
		t.Fatalf("an answer was changed by way of another: %v", two)
	}
	agree(t, s, m)
	agree(t, other, n)
}

// R3: Load keeps nothing of its argument, and does not write to it, nor behind its end.
func TestArgument(t *testing.T) {
	l := sessions()
	s, m := loaded(t, 9, l[:3], 1<<40)
	unloaded(t, 2, l[:3], 1<<40)
	if !slices.Equal(l, sessions()) {
		t.Fatalf("the argument was turned to %v", l)
	}
	clear(l)
	agree(t, s, m)
	opens(t, s, m, 1, 20, api.OK)
	closes(t, s, m, 9, 21, api.OK)
	if !slices.Equal(l, make([]api.Session, len(l))) {
		t.Fatalf("sessions that were loaded wrote into %v", l)
	}
}

// R4: two of them share nothing, be they made, or loaded from the same sessions.
func TestTwo(t *testing.T) {
	c := chance(8)
	one, m := both(t, 5)
	two, n := loaded(t, 8, sessions(), 1<<40)
	three, o := loaded(t, 8, sessions(), 1<<40)
	for range 100 {
		doBoth(t, one, m, c.any(c.number(40)))
		agree(t, two, n)
		doBoth(t, two, n, c.any(c.number(40)))
		agree(t, three, o)
		doBoth(t, three, o, c.any(c.number(40)))
		agree(t, one, m)
	}
}

// R3: an answer stays as it is, whatever is done later.
func TestKept(t *testing.T) {
	s, m := sample(t)
	list, want := s.List(), m.list()
	m.closeNode(2, 50)
	gone := s.CloseNode(2, 50)
	c := chance(10)
	for range 100 {
		doBoth(t, s, m, c.any(c.number(40)))
		if !slices.Equal(list, want) || !slices.Equal(gone, []uint64{9, 16}) {
			t.Fatalf("an answer was changed: %v, %v", list, gone)
		}
	}
}
