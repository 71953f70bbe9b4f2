package rumor_test

import (
	"math"
	"slices"
	"strconv"
	"testing"

	"sodality/api"
	"sodality/rumor"
)

// The numbers of the chapter and of the words it leans on: how many nodes there may be, the statuses, the greatest incarnation and the greatest multiplier.
const (
	nodes    = 8
	alive    = 0
	suspect  = 1
	dead     = 2
	gone     = 3
	most     = 1<<32 - 1
	mostMult = 8
)

// at is an update.
func at(node int, inc uint32, status int) api.Update {
	return api.Update{Node: node, Inc: inc, Status: status}
}

// sent is an update that was passed on so often.
func sent(u api.Update, n int) api.Rumor {
	return api.Rumor{U: u, Sent: n}
}

// ints is numbers of any kind: small ones, those around the limits of nodes, statuses and multipliers, and where integers of any width end.
func ints() []int {
	l := []int{math.MinInt, math.MinInt + 1, math.MinInt32, math.MaxInt32, math.MaxInt - 1, math.MaxInt, -256, 255, 256, 1 << 32, 1<<32 + 3, -1 << 32, 1 << 62}
	for n := -9; n <= 17; n++ {
		l = append(l, n)
	}
	return l
}

// incs is incarnations: small ones, great ones, and those around where the sign of narrower numbers turns.
func incs() []uint32 {
	return []uint32{0, 1, 2, 3, 255, 256, 1<<16 - 1, 1 << 16, 1<<31 - 1, 1 << 31, 1<<31 + 1, most - 2, most - 1, most}
}

// some is updates about a node, right and wrong ones.
func some(node int) []api.Update {
	var l []api.Update
	for _, inc := range incs() {
		for _, status := range []int{alive, suspect, dead, gone, gone + 1, -1, math.MaxInt, math.MinInt} {
			l = append(l, at(node, inc, status))
		}
	}
	return l
}

// chance is numbers that follow from a seed.
type chance uint64

// below is the next number, from 0 to n-1.
func (c *chance) below(n int) int {
	*c = *c*6364136223846793005 + 1442695040888963407
	return int(uint64(*c)>>33) % n
}

// update is any update: of few incarnations, so that they often meet, and now and then one that may not be.
func (c *chance) update() api.Update {
	u := at(c.below(nodes), uint32(c.below(6)), c.below(gone+1))
	switch c.below(15) {
	case 0:
		u.Node = ints()[c.below(len(ints()))]
	case 1:
		u.Status = ints()[c.below(len(ints()))]
	case 2:
		u.Inc = incs()[c.below(len(incs()))]
	}
	return u
}

// told is a queue by the words of the chapter: its multiplier, and the updates with their counts, the later pushed first.
type told struct {
	mult int
	l    []api.Rumor
}

// valid is what chapter 8 says of a valid update.
func valid(u api.Update) bool {
	return slices.Contains([]int{0, 1, 2, 3, 4, 5, 6, 7}, u.Node) && slices.Contains([]int{alive, suspect, dead, gone}, u.Status)
}

// higher is what chapter 8 says of an update that is above another one.
func higher(a, b api.Update) bool {
	return a.Node == b.Node && (int64(a.Inc) > int64(b.Inc) || a.Inc == b.Inc && a.Status > b.Status)
}

// digits is how many binary digits a number has, where one below 1 counts as 1.
func digits(n int) int {
	if n < 1 {
		n = 1
	}
	return len(strconv.FormatInt(int64(n), 2))
}

// place is where the update about a node is, or -1.
func (m *told) place(node int) int {
	return slices.IndexFunc(m.l, func(r api.Rumor) bool { return r.U.Node == node })
}

// push is what P10.2 says of Push.
func (m *told) push(u api.Update) bool {
	i := m.place(u.Node)
	if !valid(u) || i >= 0 && !higher(u, m.l[i].U) {
		return false
	}
	if i >= 0 {
		m.l = slices.Delete(m.l, i, i+1)
	}
	m.l = append([]api.Rumor{{U: u}}, m.l...)
	return true
}

// list is what P10.4 says of List.
func (m *told) list() []api.Rumor {
	l := slices.Clone(m.l)
	slices.SortStableFunc(l, func(a, b api.Rumor) int { return a.Sent - b.Sent })
	return l
}

// take is what P10.3 says of Take.
func (m *told) take(n, members int) []api.Update {
	var out []api.Update
	for _, r := range m.list() {
		if len(out) >= n {
			break
		}
		out = append(out, r.U)
		i := m.place(r.U.Node)
		m.l[i].Sent++
		if m.l[i].Sent >= m.mult*digits(members) {
			m.l = slices.Delete(m.l, i, i+1)
		}
	}
	return out
}

// both is a new queue, and one by the chapter's words.
func both(mult int) (*rumor.Queue, *told) {
	return rumor.New(mult), &told{mult: min(max(mult, 1), mostMult)}
}

// agree fails where a queue tells something else than the chapter's words.
func agree(t *testing.T, q *rumor.Queue, m *told) {
	t.Helper()
	if got, want := q.List(), m.list(); !slices.Equal(got, want) {
		t.Fatalf("List = %v, want %v", got, want)
	}
	for _, r := range m.l {
		u := r.U
		if !q.Has(u) {
			t.Fatalf("Has(%v) = false, of %v", u, m.list())
		}
		for _, o := range []api.Update{at(u.Node, u.Inc+1, u.Status), at(u.Node, u.Inc-1, u.Status), at(u.Node, u.Inc, u.Status+1), at(u.Node, u.Inc, u.Status-1), at(u.Node+nodes, u.Inc, u.Status), at(u.Node-nodes, u.Inc, u.Status)} {
			if q.Has(o) {
				t.Fatalf("Has(%v) = true, of %v", o, m.list())
			}
		}
	}
	for node := range nodes {
		if m.place(node) < 0 && (q.Has(at(node, 0, alive)) || q.Has(at(node, 3, suspect))) {
			t.Fatalf("Has of node %d = true, of %v", node, m.list())
		}
	}
}

// pushBoth pushes an update into both, which must answer the same.
func pushBoth(t *testing.T, q *rumor.Queue, m *told, u api.Update) bool {
	t.Helper()
	before := m.list()
	got := q.Push(u)
	if want := m.push(u); got != want {
		t.Fatalf("Push(%v) = %t, want %t, of %v", u, got, want, before)
	}
	agree(t, q, m)
	return got
}

// takeBoth takes from both, which must answer the same.
func takeBoth(t *testing.T, q *rumor.Queue, m *told, n, members int) []api.Update {
	t.Helper()
	before := m.list()
	got := q.Take(n, members)
	if want := m.take(n, members); !slices.Equal(got, want) {
		t.Fatalf("Take(%d, %d) = %v, want %v, of %v", n, members, got, want, before)
	}
	agree(t, q, m)
	return got
}

// The chapter's examples.
func TestExamples(t *testing.T) {
	q := rumor.New(2)
	for members, want := range map[int]int{1: 2, 3: 4, 4: 6} {
		if got := q.Limit(members); got != want {
			t.Errorf("Limit(%d) = %d, want %d", members, got, want)
		}
	}
	if !q.Push(at(1, 3, alive)) || !q.Push(at(2, 1, alive)) || q.Push(at(1, 2, alive)) {
		t.Error("Push: not as the examples have it")
	}
	if got := q.Take(1, 1); !slices.Equal(got, []api.Update{at(2, 1, alive)}) {
		t.Errorf("Take(1, 1) = %v", got)
	}
	if got := q.Take(5, 1); !slices.Equal(got, []api.Update{at(1, 3, alive), at(2, 1, alive)}) {
		t.Errorf("Take(5, 1) = %v", got)
	}
	if got := q.List(); !slices.Equal(got, []api.Rumor{sent(at(1, 3, alive), 1)}) {
		t.Errorf("List = %v", got)
	}
}

// P10.1: a new queue is empty, whatever its multiplier.
func TestP101Empty(t *testing.T) {
	for _, mult := range ints() {
		q := rumor.New(mult)
		if q == nil || len(q.List()) != 0 || len(q.Take(9, 9)) != 0 || q.Has(api.Update{}) {
			t.Fatalf("New(%d) is not empty", mult)
		}
		for node := range nodes {
			for _, u := range some(node) {
				if q.Has(u) {
					t.Fatalf("New(%d) has %v", mult, u)
				}
			}
		}
	}
}

// P10.1: the multiplier is one from 1 to the greatest one, and the next of these for any other number.
func TestP101Mult(t *testing.T) {
	for _, mult := range ints() {
		want := mult
		if mult < 1 {
			want = 1
		}
		if mult > mostMult {
			want = mostMult
		}
		if got := rumor.New(mult).Limit(1); got != want {
			t.Errorf("New(%d) has multiplier %d, want %d", mult, got, want)
		}
	}
}

// P10.1: Limit of any number of members: around each power of two, where integers end, and below 1.
func TestP101Limit(t *testing.T) {
	all := ints()
	for i := range 63 {
		all = append(all, 1<<i-1, 1<<i, 1<<i+1, -1<<i, -1<<i-1)
	}
	for n := -100; n < 2100; n++ {
		all = append(all, n)
	}
	for mult := 1; mult <= mostMult; mult++ {
		q := rumor.New(mult)
		for _, members := range all {
			if got, want := q.Limit(members), mult*digits(members); got != want {
				t.Fatalf("New(%d).Limit(%d) = %d, want %d", mult, members, got, want)
			}
		}
	}
}

// P10.1: Limit does not hang on what is in the queue, and asking for it changes nothing.
func TestP101Asking(t *testing.T) {
	c := chance(1)
	q, m := both(3)
	for range 300 {
		for members := -3; members < 70; members++ {
			if got, want := q.Limit(members), 3*digits(members); got != want {
				t.Fatalf("Limit(%d) = %d, want %d", members, got, want)
			}
		}
		pushBoth(t, q, m, c.update())
		takeBoth(t, q, m, 2, 4)
	}
}

// P10.2: the first update about a node: a valid one is pushed, another one is not.
func TestP102First(t *testing.T) {
	for _, node := range ints() {
		for _, u := range some(node) {
			q, m := both(1)
			if got := pushBoth(t, q, m, u); got != valid(u) {
				t.Fatalf("Push(%v) = %t", u, got)
			}
		}
	}
}

// P10.2: an update that is not valid does nothing, whether or not there is one about its node.
func TestP102Wrong(t *testing.T) {
	q, m := both(4)
	for range 2 {
		for _, node := range ints() {
			for _, status := range ints() {
				for _, inc := range []uint32{0, 1, 9, most} {
					u := at(node, inc, status)
					if !valid(u) && (pushBoth(t, q, m, u) || q.Has(u)) {
						t.Fatalf("Push(%v) did something", u)
					}
				}
			}
		}
		for node := range nodes {
			pushBoth(t, q, m, at(node, 0, alive))
		}
		takeBoth(t, q, m, 3, 1)
	}
	if len(q.List()) != nodes {
		t.Errorf("List = %v", q.List())
	}
}

// P10.2: of any two updates about a node the second one replaces the first one if it is above it, and else it does nothing.
func TestP102Two(t *testing.T) {
	for _, old := range some(5) {
		if !valid(old) {
			continue
		}
		for _, u := range some(5) {
			q, m := both(4)
			pushBoth(t, q, m, old)
			pushBoth(t, q, m, at(0, 7, dead))
			want := []api.Rumor{sent(at(0, 7, dead), 0), sent(old, 0)}
			above := valid(u) && (u.Inc > old.Inc || u.Inc == old.Inc && u.Status > old.Status)
			if above {
				want = []api.Rumor{sent(u, 0), sent(at(0, 7, dead), 0)}
			}
			if got := pushBoth(t, q, m, u); got != above || !slices.Equal(q.List(), want) {
				t.Fatalf("Push(%v) upon %v = %t, and List = %v, want %v", u, old, got, q.List(), want)
			}
		}
	}
}

// P10.2: what replaces an update counts from 0 anew; what does not replace it leaves its count and its place.
func TestP102Count(t *testing.T) {
	q, m := both(8)
	pushBoth(t, q, m, at(3, 4, suspect))
	pushBoth(t, q, m, at(6, 4, suspect))
	for range 3 {
		takeBoth(t, q, m, 9, 1)
	}
	still := []api.Rumor{sent(at(6, 4, suspect), 3), sent(at(3, 4, suspect), 3)}
	for _, u := range []api.Update{at(3, 4, suspect), at(3, 4, alive), at(3, 3, gone), at(3, 0, dead), at(3, 9, 4), at(3, 9, -1)} {
		if pushBoth(t, q, m, u) || !slices.Equal(q.List(), still) {
			t.Fatalf("behind Push(%v) List = %v, want %v", u, q.List(), still)
		}
	}
	if !pushBoth(t, q, m, at(3, 4, dead)) || !slices.Equal(q.List(), []api.Rumor{sent(at(3, 4, dead), 0), sent(at(6, 4, suspect), 3)}) {
		t.Fatalf("List = %v", q.List())
	}
	if q.Has(at(3, 4, suspect)) || !q.Has(at(3, 4, dead)) {
		t.Error("the old update is there, or the new one is not")
	}
}

// P10.2: an update that was passed on often enough is forgotten: it can be pushed again, and a lower one as well.
func TestP102Forgotten(t *testing.T) {
	for _, u := range []api.Update{at(2, 5, suspect), at(2, 5, alive), at(2, 1, gone), at(2, 6, dead)} {
		q, m := both(1)
		pushBoth(t, q, m, at(2, 5, suspect))
		takeBoth(t, q, m, 1, 1)
		if !pushBoth(t, q, m, u) || !slices.Equal(q.List(), []api.Rumor{sent(u, 0)}) {
			t.Fatalf("List = %v, want %v", q.List(), u)
		}
	}
}

// P10.3: of a full queue each number of updates that is asked for, the first ones; none if that is below 1, all if it is beyond the queue.
func TestP103Most(t *testing.T) {
	for _, n := range ints() {
		for members := range 10 {
			q, m := both(2)
			for node := range nodes {
				pushBoth(t, q, m, at(node, 3, suspect))
			}
			want := []api.Update{at(7, 3, suspect), at(6, 3, suspect), at(5, 3, suspect), at(4, 3, suspect), at(3, 3, suspect), at(2, 3, suspect), at(1, 3, suspect), at(0, 3, suspect)}
			want = want[:min(max(n, 0), nodes)]
			if got := takeBoth(t, q, m, n, members); !slices.Equal(got, want) {
				t.Fatalf("Take(%d, %d) = %v, want %v", n, members, got, want)
			}
		}
	}
}

// P10.3: where nothing is asked for nothing changes, however few members there are.
func TestP103None(t *testing.T) {
	q, m := both(1)
	for node := range nodes {
		pushBoth(t, q, m, at(node, 1, alive))
		takeBoth(t, q, m, node, 1<<20)
	}
	for _, n := range []int{0, -1, math.MinInt, math.MinInt32} {
		for _, members := range ints() {
			if got := takeBoth(t, q, m, n, members); len(got) != 0 {
				t.Fatalf("Take(%d, %d) = %v", n, members, got)
			}
		}
	}
}

// P10.3: an update is returned, and counted, as often as Limit has it, and is not there any more when its count reaches that.
func TestP103Limit(t *testing.T) {
	for mult := 1; mult <= mostMult; mult++ {
		for _, members := range append(ints(), 31, 32, 63, 64) {
			q, m := both(mult)
			u := at(4, 2, dead)
			pushBoth(t, q, m, u)
			limit := mult * digits(members)
			for i := range limit {
				if l := q.List(); !slices.Equal(l, []api.Rumor{sent(u, i)}) {
					t.Fatalf("List = %v, want %d for %v", l, i, u)
				}
				if got := q.Take(1, members); !slices.Equal(got, []api.Update{u}) {
					t.Fatalf("Take %d of %d = %v", i, limit, got)
				}
			}
			if len(q.List()) != 0 || q.Has(u) || len(q.Take(1, members)) != 0 {
				t.Fatalf("behind %d of Take(1, %d) with multiplier %d List = %v", limit, members, mult, q.List())
			}
		}
	}
}

// P10.3: only what is returned is counted.
func TestP103Counted(t *testing.T) {
	q, m := both(8)
	for node := range nodes {
		pushBoth(t, q, m, at(node, 1, alive))
	}
	takeBoth(t, q, m, 3, 2)
	for i, r := range q.List() {
		if i < 5 && r != sent(at(4-i, 1, alive), 0) || i >= 5 && r != sent(at(12-i, 1, alive), 1) {
			t.Fatalf("List = %v", q.List())
		}
	}
}

// P10.3: the limit is that of each call: with more members an update is passed on for longer.
func TestP103More(t *testing.T) {
	q, m := both(1)
	u := at(0, 0, alive)
	pushBoth(t, q, m, u)
	for i, members := range []int{2, 4, 8, 16, 32} {
		if got := takeBoth(t, q, m, 1, members); !slices.Equal(got, []api.Update{u}) || !slices.Equal(q.List(), []api.Rumor{sent(u, i+1)}) {
			t.Fatalf("Take(1, %d) = %v, and List = %v", members, got, q.List())
		}
	}
	if takeBoth(t, q, m, 1, 63); len(q.List()) != 0 {
		t.Errorf("List = %v", q.List())
	}
}

// P10.3: with fewer members what is returned beyond the limit is not there any more.
func TestP103Fewer(t *testing.T) {
	q, m := both(1)
	u := at(6, 1, suspect)
	pushBoth(t, q, m, u)
	for range 5 {
		takeBoth(t, q, m, 1, 100)
	}
	if got := takeBoth(t, q, m, 1, 1); !slices.Equal(got, []api.Update{u}) || len(q.List()) != 0 {
		t.Errorf("Take(1, 1) = %v, and List = %v", got, q.List())
	}
}

// P10.3: what is not returned stays as it is, though with fewer members it was passed on often enough.
func TestP103Waiting(t *testing.T) {
	q, m := both(1)
	old, u := at(6, 1, suspect), at(2, 1, alive)
	pushBoth(t, q, m, old)
	for range 5 {
		takeBoth(t, q, m, 1, 100)
	}
	pushBoth(t, q, m, u)
	if got := takeBoth(t, q, m, 1, 1); !slices.Equal(got, []api.Update{u}) || !slices.Equal(q.List(), []api.Rumor{sent(old, 5)}) {
		t.Errorf("Take(1, 1) = %v, and List = %v", got, q.List())
	}
}

// P10.4: of equal counts the later pushed is first, in whatever order the nodes come.
func TestP104Later(t *testing.T) {
	for step := 1; step < nodes; step += 2 {
		for from := range nodes {
			q, m := both(8)
			for i := range nodes {
				pushBoth(t, q, m, at((from+i*step)%nodes, uint32(9-i), i%4))
			}
			for round := range 4 {
				for i, r := range q.List() {
					k := nodes - 1 - i
					if r != sent(at((from+k*step)%nodes, uint32(9-k), k%4), round) {
						t.Fatalf("List = %v, %d is wrong", q.List(), i)
					}
				}
				takeBoth(t, q, m, nodes, 1)
			}
		}
	}
}

// P10.4: a lower count is first, though it was pushed sooner; an update that replaces another one is the later pushed.
func TestP104Order(t *testing.T) {
	q, m := both(8)
	a, b, c := at(0, 1, alive), at(1, 1, alive), at(2, 1, alive)
	pushBoth(t, q, m, a)
	pushBoth(t, q, m, b)
	takeBoth(t, q, m, 1, 1)
	if l := q.List(); !slices.Equal(l, []api.Rumor{sent(a, 0), sent(b, 1)}) {
		t.Fatalf("List = %v", l)
	}
	pushBoth(t, q, m, c)
	if l := q.List(); !slices.Equal(l, []api.Rumor{sent(c, 0), sent(a, 0), sent(b, 1)}) {
		t.Fatalf("List = %v", l)
	}
	a.Status = suspect
	pushBoth(t, q, m, a)
	if l := q.List(); !slices.Equal(l, []api.Rumor{sent(a, 0), sent(c, 0), sent(b, 1)}) {
		t.Fatalf("List = %v", l)
	}
	takeBoth(t, q, m, 2, 1)
	if l := q.List(); !slices.Equal(l, []api.Rumor{sent(a, 1), sent(c, 1), sent(b, 1)}) {
		t.Fatalf("List = %v", l)
	}
}

// P10.4: a push that is refused does not count as one.
func TestP104Refused(t *testing.T) {
	q, m := both(8)
	pushBoth(t, q, m, at(5, 2, suspect))
	pushBoth(t, q, m, at(1, 2, suspect))
	want := q.List()
	for _, u := range []api.Update{at(5, 2, suspect), at(5, 2, alive), at(5, 1, gone), at(5, 9, 4)} {
		if pushBoth(t, q, m, u) || !slices.Equal(q.List(), want) {
			t.Fatalf("behind Push(%v) List = %v, want %v", u, q.List(), want)
		}
	}
}

// P10.4: Has asks for just that update: another node, incarnation or status is not it.
func TestP104Has(t *testing.T) {
	for _, u := range []api.Update{at(0, 0, alive), at(3, 1, suspect), at(7, most, gone), at(5, 1<<31, dead)} {
		q, m := both(2)
		pushBoth(t, q, m, u)
		for _, node := range ints() {
			for _, status := range ints() {
				for _, inc := range incs() {
					o := at(node, inc, status)
					if got := q.Has(o); got != (o == u) {
						t.Fatalf("Has(%v) = %t, of %v", o, got, u)
					}
				}
			}
		}
	}
}

// P10.4: asking changes nothing.
func TestP104Asking(t *testing.T) {
	c := chance(2)
	q, m := both(2)
	for range 300 {
		for range 3 {
			q.Has(c.update())
			q.List()
		}
		pushBoth(t, q, m, c.update())
		takeBoth(t, q, m, c.below(4), c.below(9))
	}
}

// P10.5: a queue that is not there, or that New did not make, does nothing.
func TestP105NoQueue(t *testing.T) {
	for _, q := range []*rumor.Queue{nil, {}, new(rumor.Queue)} {
		for range 2 {
			for _, node := range ints() {
				for _, u := range some(node) {
					if q.Push(u) || q.Has(u) {
						t.Fatalf("Push(%v) or Has of it = true", u)
					}
				}
			}
			for _, n := range ints() {
				if q.Limit(n) != 0 || len(q.Take(n, 3)) != 0 || len(q.Take(3, n)) != 0 {
					t.Fatalf("Limit(%d) = %d, Take(%d, 3) = %v, Take(3, %d) = %v", n, q.Limit(n), n, q.Take(n, 3), n, q.Take(3, n))
				}
			}
			if l := q.List(); len(l) != 0 {
				t.Errorf("List = %v", l)
			}
		}
	}
}

// P10.6: there is at most one update about each node, and only what was pushed.
func TestP106One(t *testing.T) {
	c := chance(3)
	for range 200 {
		q := rumor.New(c.below(10))
		pushed := map[api.Update]int{}
		for range 60 {
			if u := c.update(); q.Push(u) {
				pushed[u]++
			}
			if c.below(3) == 0 {
				q.Take(c.below(4), c.below(9))
			}
			seen := map[int]int{}
			for _, r := range q.List() {
				seen[r.U.Node]++
				if seen[r.U.Node] > 1 || pushed[r.U] == 0 || !q.Has(r.U) {
					t.Fatalf("List = %v", q.List())
				}
			}
		}
	}
}

// P10.6: the last update about each node is passed on Limit times, however Take is called, and one that was replaced never again.
func TestP106Passed(t *testing.T) {
	c := chance(4)
	for range 300 {
		members := c.below(20)
		q := rumor.New(1 + c.below(mostMult))
		limit := q.Limit(members)
		var last [nodes]api.Update
		var passed [nodes]int
		take := func(n int) int {
			l := q.Take(n, members)
			for _, u := range l {
				if u != last[u.Node] {
					t.Fatalf("Take = %v, the last one is %v", u, last[u.Node])
				}
				passed[u.Node]++
			}
			return len(l)
		}
		for range 80 {
			if u := c.update(); q.Push(u) {
				last[u.Node], passed[u.Node] = u, 0
			}
			take(c.below(4) - 1)
		}
		for take(1+c.below(3)) > 0 {
		}
		for node, n := range passed {
			if last[node] != (api.Update{}) && n != limit || len(q.List()) != 0 {
				t.Fatalf("%v was passed on %d times, want %d; List = %v", last[node], n, limit, q.List())
			}
		}
	}
}

// P10.1 to P10.4: through any calls a queue does as the chapter's words have it.
func TestAny(t *testing.T) {
	c := chance(5)
	for range 600 {
		q, m := both(c.below(12) - 1)
		for range 80 {
			if c.below(2) == 0 {
				pushBoth(t, q, m, c.update())
			} else {
				takeBoth(t, q, m, c.below(nodes+3)-1, c.below(18)-1)
			}
		}
	}
}

// R3: what Take and List answer shares no memory with the queue, nor with another answer.
func TestResults(t *testing.T) {
	q, m := both(8)
	for node := range nodes {
		pushBoth(t, q, m, at(node, 1, suspect))
	}
	for range 5 {
		list, other := q.List(), q.List()
		for l := other[:cap(other)]; len(l) > 0; l = l[1:] {
			l[0] = sent(at(9, 9, 9), 9)
		}
		if !slices.Equal(list, m.list()) {
			t.Fatalf("an answer was changed by way of another one: %v, want %v", list, m.list())
		}
		agree(t, q, m)
		taken := takeBoth(t, q, m, 5, 9)
		want := slices.Clone(taken)
		next := takeBoth(t, q, m, 5, 9)
		for l := next[:cap(next)]; len(l) > 0; l = l[1:] {
			l[0] = at(9, 9, 9)
		}
		if !slices.Equal(taken, want) {
			t.Fatalf("an answer was changed by way of another one: %v, want %v", taken, want)
		}
		agree(t, q, m)
	}
}

// R3: an answer stays as it is, whatever is called later.
func TestKept(t *testing.T) {
	q, m := both(1)
	for node := range 3 {
		pushBoth(t, q, m, at(node, 1, alive))
	}
	list, taken := q.List(), takeBoth(t, q, m, 2, 5)
	for node := range nodes {
		pushBoth(t, q, m, at(node, 2, gone))
	}
	for range 9 {
		takeBoth(t, q, m, 3, 2)
	}
	if !slices.Equal(list, []api.Rumor{sent(at(2, 1, alive), 0), sent(at(1, 1, alive), 0), sent(at(0, 1, alive), 0)}) || !slices.Equal(taken, []api.Update{at(2, 1, alive), at(1, 1, alive)}) {
		t.Errorf("answers were changed: %v, %v", list, taken)
	}
}

// R4: two queues share nothing.
func TestTwo(t *testing.T) {
	one, m := both(2)
	two, k := both(2)
	for node := range nodes {
		pushBoth(t, one, m, at(node, 9, suspect))
		agree(t, two, k)
	}
	pushBoth(t, two, k, at(3, 1, alive))
	agree(t, one, m)
	takeBoth(t, two, k, 9, 1)
	takeBoth(t, two, k, 9, 1)
	agree(t, one, m)
	takeBoth(t, one, m, 9, 1)
	pushBoth(t, two, k, at(3, 1, alive))
	agree(t, one, m)
}
