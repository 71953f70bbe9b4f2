package roll_test

import (
	"math"
	"slices"
	"testing"

	"sodality/api"
	"sodality/rank"
	"sodality/roll"
)

// The numbers of the chapter and of the words it leans on: how many nodes there may be, the statuses, the greatest incarnation, the kinds of changes, and the error of a number that is no node.
const (
	nodes   = 8
	alive   = 0
	suspect = 1
	dead    = 2
	gone    = 3
	most    = 1<<32 - 1
	none    = 0
	fresh   = 1
	raised  = 2
	mine    = 3
	stuck   = 4
	errArg  = 2
)

// at is an update.
func at(node int, inc uint32, status int) api.Update {
	return api.Update{Node: node, Inc: inc, Status: status}
}

// ints is nodes and statuses: all that may be, those around them, and where integers of any width end.
func ints() []int {
	l := []int{math.MinInt, math.MinInt + 1, math.MinInt32, math.MaxInt32, math.MaxInt - 1, math.MaxInt, -256, 255, 256, 1 << 32, 1<<32 + 3, -1 << 32, 1 << 62}
	for n := -9; n <= 17; n++ {
		l = append(l, n)
	}
	return l
}

// incs is incarnations: small ones, great ones, and those around where the sign of narrower numbers turns.
func incs() []uint32 {
	return []uint32{0, 1, 2, 3, 255, 256, 1<<16 - 1, 1 << 16, 1<<31 - 1, 1 << 31, 1<<31 + 1, most - 2, most - 1, most}
}

// statuses is the statuses that may be, and some that may not.
func statuses() []int {
	return []int{alive, suspect, dead, gone, gone + 1, -1, math.MaxInt, math.MinInt}
}

// some is updates about a node, right and wrong ones.
func some(node int) []api.Update {
	var l []api.Update
	for _, inc := range incs() {
		for _, status := range statuses() {
			l = append(l, at(node, inc, status))
		}
	}
	return l
}

// chance is numbers that follow from a seed.
type chance uint64

// below is the next number, from 0 to n-1.
func (c *chance) below(n int) int {
	*c = *c*6364136223846793005 + 1442695040888963407
	return int(uint64(*c)>>33) % n
}

// update is any update: of few incarnations, so that they often meet, and now and then one that may not be.
func (c *chance) update() api.Update {
	u := at(c.below(nodes), uint32(c.below(4)), c.below(gone+1))
	switch c.below(15) {
	case 0:
		u.Node = ints()[c.below(len(ints()))]
	case 1:
		u.Status = ints()[c.below(len(ints()))]
	case 2:
		u.Inc = incs()[c.below(len(incs()))]
	}
	return u
}

// told is a roll by the words of the chapter: its own node's update, and the updates about others, in any order.
type told struct {
	own    api.Update
	others []api.Update
}

// valid is what chapter 8 says of a valid update.
func valid(u api.Update) bool {
	return slices.Contains([]int{0, 1, 2, 3, 4, 5, 6, 7}, u.Node) && slices.Contains([]int{alive, suspect, dead, gone}, u.Status)
}

// higher is what chapter 8 says of an update that is above another one.
func higher(a, b api.Update) bool {
	return a.Node == b.Node && (int64(a.Inc) > int64(b.Inc) || a.Inc == b.Inc && a.Status > b.Status)
}

// apply is what P9.2 and P9.3 say of Apply.
func (m *told) apply(u api.Update) roll.Change {
	if !valid(u) {
		return roll.Change{}
	}
	if u.Node == m.own.Node {
		return m.applyOwn(u)
	}
	for i, old := range m.others {
		if old.Node == u.Node && !higher(u, old) {
			return roll.Change{}
		}
		if old.Node == u.Node {
			m.others[i] = u
			return roll.Change{Kind: raised, Old: old, New: u}
		}
	}
	m.others = append(m.others, u)
	return roll.Change{Kind: fresh, New: u}
}

// applyOwn is what P9.3 says of a valid update about the own node.
func (m *told) applyOwn(u api.Update) roll.Change {
	old := m.own
	if !higher(u, old) || old.Status == gone {
		return roll.Change{}
	}
	inc := max(int64(old.Inc), int64(u.Inc)) + 1
	if inc > most {
		return roll.Change{Kind: stuck, Old: old, New: old}
	}
	m.own = at(old.Node, uint32(inc), alive)
	return roll.Change{Kind: mine, Old: old, New: m.own}
}

// leave is what P9.4 says of Leave.
func (m *told) leave() (api.Update, bool) {
	is := m.own.Status != gone
	m.own.Status = gone
	return m.own, is
}

// list is what P9.5 says of List.
func (m *told) list() []api.Update {
	l := append([]api.Update{m.own}, m.others...)
	slices.SortFunc(l, func(a, b api.Update) int { return a.Node - b.Node })
	return l
}

// live is what P9.5 says of Live.
func (m *told) live() []int {
	var l []int
	for _, u := range m.list() {
		if u.Status == alive || u.Status == suspect {
			l = append(l, u.Node)
		}
	}
	return l
}

// get is what P9.5 says of Get.
func (m *told) get(node int) (api.Update, bool) {
	for _, u := range m.list() {
		if u.Node == node {
			return u, true
		}
	}
	return api.Update{}, false
}

// agree fails where a roll tells something else than the chapter's words.
func agree(t *testing.T, r *roll.Roll, m *told) {
	t.Helper()
	if got, want := r.List(), m.list(); !slices.Equal(got, want) {
		t.Fatalf("List = %v, want %v", got, want)
	}
	if got, want := r.Live(), m.live(); !slices.Equal(got, want) {
		t.Fatalf("Live = %v, want %v, of %v", got, want, m.list())
	}
	peers := slices.DeleteFunc(m.live(), func(node int) bool { return node == m.own.Node })
	if got := r.Peers(); !slices.Equal(got, peers) {
		t.Fatalf("Peers = %v, want %v, of %v and node %d", got, peers, m.list(), m.own.Node)
	}
	if got := r.Self(); got != m.own {
		t.Fatalf("Self = %v, want %v", got, m.own)
	}
	for node := -1; node <= nodes; node++ {
		got, is := r.Get(node)
		if want, there := m.get(node); got != want || is != there {
			t.Fatalf("Get(%d) = %v, %t, want %v, %t", node, got, is, want, there)
		}
	}
}

// both is a new roll, and one by the chapter's words.
func both(t *testing.T, self int, inc uint32) (*roll.Roll, *told) {
	t.Helper()
	r, err := roll.New(self, inc)
	if r == nil || err != api.OK {
		t.Fatalf("New(%d, %d) = %v, %d", self, inc, r, err)
	}
	return r, &told{own: at(self, inc, alive)}
}

// applyBoth applies an update to both, which must answer the same.
func applyBoth(t *testing.T, r *roll.Roll, m *told, u api.Update) roll.Change {
	t.Helper()
	before := m.list()
	got := r.Apply(u)
	if want := m.apply(u); got != want {
		t.Fatalf("Apply(%v) = %v, want %v, of node %d with %v", u, got, want, m.own.Node, before)
	}
	agree(t, r, m)
	return got
}

// leaveBoth lets both leave, which must answer the same.
func leaveBoth(t *testing.T, r *roll.Roll, m *told) bool {
	t.Helper()
	got, is := r.Leave()
	if want, did := m.leave(); got != want || is != did {
		t.Fatalf("Leave = %v, %t, want %v, %t", got, is, want, did)
	}
	agree(t, r, m)
	return is
}

// The kinds of changes are the chapter's numbers.
func TestKinds(t *testing.T) {
	if roll.None != none || roll.Fresh != fresh || roll.Raised != raised || roll.Mine != mine || roll.Stuck != stuck {
		t.Errorf("kinds %d, %d, %d, %d, %d", roll.None, roll.Fresh, roll.Raised, roll.Mine, roll.Stuck)
	}
}

// The chapter's examples.
func TestExamples(t *testing.T) {
	r, err := roll.New(2, 5)
	if err != api.OK {
		t.Fatalf("New(2, 5): error %d", err)
	}
	for _, x := range []struct {
		u    api.Update
		want roll.Change
	}{
		{at(1, 3, alive), roll.Change{Kind: fresh, New: at(1, 3, alive)}},
		{at(1, 3, suspect), roll.Change{Kind: raised, Old: at(1, 3, alive), New: at(1, 3, suspect)}},
		{at(1, 2, dead), roll.Change{}},
		{at(2, 5, suspect), roll.Change{Kind: mine, Old: at(2, 5, alive), New: at(2, 6, alive)}},
	} {
		if got := r.Apply(x.u); got != x.want {
			t.Errorf("Apply(%v) = %v, want %v", x.u, got, x.want)
		}
	}
	if got := r.Live(); !slices.Equal(got, []int{1, 2}) {
		t.Errorf("Live = %v", got)
	}
	if u, is := r.Leave(); u != at(2, 6, gone) || !is {
		t.Errorf("Leave = %v, %t", u, is)
	}
	if got := r.Apply(at(2, 9, dead)); got != (roll.Change{}) {
		t.Errorf("Apply behind Leave = %v", got)
	}
}

// P9.1: a new roll has its own node alone, Alive at any incarnation; a number that is no node is an error.
func TestP91New(t *testing.T) {
	for _, self := range ints() {
		for _, inc := range incs() {
			if self >= 0 && self < nodes {
				r, m := both(t, self, inc)
				agree(t, r, m)
				if l := r.List(); !slices.Equal(l, []api.Update{at(self, inc, alive)}) {
					t.Fatalf("New(%d, %d) has %v", self, inc, l)
				}
			} else if r, err := roll.New(self, inc); r != nil || err != errArg {
				t.Fatalf("New(%d, %d) = %v, %d, want an error", self, inc, r, err)
			}
		}
	}
	right := 0
	for self := -300; self < 300; self++ {
		if _, err := roll.New(self, 1); err == api.OK {
			right++
		}
	}
	if right != nodes {
		t.Errorf("New takes %d nodes, want %d", right, nodes)
	}
}

// P9.2: the first update about another node is Fresh, whatever its status and incarnation, for each own node.
func TestP92Fresh(t *testing.T) {
	for self := range nodes {
		for node := range nodes {
			for _, u := range some(node) {
				r, m := both(t, self, 3)
				got := applyBoth(t, r, m, u)
				if want := (roll.Change{Kind: fresh, New: u}); node != self && valid(u) && got != want {
					t.Fatalf("Apply(%v) to New(%d) = %v, want %v", u, self, got, want)
				}
			}
		}
	}
}

// P9.2: of any two updates about another node the second one is Raised if it is above the first one, and else nothing.
func TestP92Raised(t *testing.T) {
	for _, old := range some(5) {
		for _, u := range some(5) {
			r, m := both(t, 4, 3)
			applyBoth(t, r, m, old)
			got := applyBoth(t, r, m, u)
			if valid(old) && valid(u) {
				want := roll.Change{}
				if higher(u, old) {
					want = roll.Change{Kind: raised, Old: old, New: u}
				}
				if got != want {
					t.Fatalf("Apply(%v) upon %v = %v, want %v", u, old, got, want)
				}
			}
		}
	}
}

// P9.2: an update that is not valid does nothing, whether or not there is one about its node.
func TestP92Wrong(t *testing.T) {
	r, m := both(t, 2, 1)
	for range 2 {
		for _, node := range ints() {
			for _, status := range ints() {
				for _, inc := range []uint32{0, 1, 9, most} {
					u := at(node, inc, status)
					if !valid(u) && applyBoth(t, r, m, u) != (roll.Change{}) {
						t.Fatalf("Apply(%v) did something", u)
					}
				}
			}
		}
		for node := range nodes {
			applyBoth(t, r, m, at(node, 0, alive))
		}
	}
	if len(r.List()) != nodes {
		t.Errorf("List = %v", r.List())
	}
}

// P9.2: a node that is Dead or Gone lives again by a greater incarnation, and by nothing else.
func TestP92Back(t *testing.T) {
	for _, end := range []int{dead, gone} {
		r, m := both(t, 0, 1)
		applyBoth(t, r, m, at(6, 4, end))
		for _, u := range []api.Update{at(6, 4, alive), at(6, 4, suspect), at(6, 3, gone), at(6, 0, alive), at(6, 4, end)} {
			if got := applyBoth(t, r, m, u); got.Kind != none {
				t.Fatalf("Apply(%v) upon status %d at 4 = %v", u, end, got)
			}
		}
		if got := applyBoth(t, r, m, at(6, 5, alive)); got.Kind != raised || !slices.Equal(r.Peers(), []int{6}) {
			t.Fatalf("Alive at 5 = %v, the peers are %v", got, r.Peers())
		}
	}
}

// P9.3: any update about the own node, at any incarnation of it.
func TestP93Own(t *testing.T) {
	for _, self := range []int{0, 3, 7} {
		for _, own := range incs() {
			for _, u := range some(self) {
				r, m := both(t, self, own)
				applyBoth(t, r, m, at((self+1)%nodes, 2, alive))
				got := applyBoth(t, r, m, u)
				want := roll.Change{}
				if valid(u) && (u.Inc > own || u.Inc == own && u.Status > alive) {
					want = roll.Change{Kind: mine, Old: at(self, own, alive), New: at(self, u.Inc+1, alive)}
					if u.Inc == most {
						want = roll.Change{Kind: stuck, Old: at(self, own, alive), New: at(self, own, alive)}
					}
				}
				if got != want {
					t.Fatalf("Apply(%v) to New(%d, %d) = %v, want %v", u, self, own, got, want)
				}
			}
		}
	}
}

// P9.3: a greater incarnation of the own node is contradicted though it is Alive, and the answer to it is not.
func TestP93Alive(t *testing.T) {
	r, m := both(t, 1, 4)
	if got := applyBoth(t, r, m, at(1, 9, alive)); got.Kind != mine || got.New != at(1, 10, alive) {
		t.Errorf("Alive at 9 = %v", got)
	}
	for _, inc := range []uint32{0, 4, 9, 10} {
		if got := applyBoth(t, r, m, at(1, inc, alive)); got.Kind != none {
			t.Errorf("Alive at %d = %v", inc, got)
		}
	}
	if got := applyBoth(t, r, m, at(1, 9, gone)); got.Kind != none {
		t.Errorf("Gone at 9 = %v", got)
	}
}

// P9.3: a node that is stuck stays as it is, each time anew; what it can contradict, it does.
func TestP93Stuck(t *testing.T) {
	r, m := both(t, 5, 7)
	still := roll.Change{Kind: stuck, Old: at(5, 7, alive), New: at(5, 7, alive)}
	for _, status := range []int{alive, suspect, dead, gone, alive} {
		if got := applyBoth(t, r, m, at(5, most, status)); got != still {
			t.Fatalf("status %d at the greatest incarnation = %v, want %v", status, got, still)
		}
	}
	if got := applyBoth(t, r, m, at(5, most-1, dead)); got.Kind != mine || got.New != at(5, most, alive) {
		t.Fatalf("Dead at the last but one = %v", got)
	}
	still = roll.Change{Kind: stuck, Old: at(5, most, alive), New: at(5, most, alive)}
	for _, status := range []int{suspect, dead, gone} {
		if got := applyBoth(t, r, m, at(5, most, status)); got != still {
			t.Fatalf("status %d at the own incarnation, the greatest one, = %v, want %v", status, got, still)
		}
	}
	if got := applyBoth(t, r, m, at(5, most, alive)); got.Kind != none {
		t.Fatalf("what stands = %v", got)
	}
}

// P9.3: a node that has left says no more, whatever it is told of itself.
func TestP93Left(t *testing.T) {
	for _, own := range incs() {
		r, m := both(t, 6, own)
		leaveBoth(t, r, m)
		for _, u := range some(6) {
			if got := applyBoth(t, r, m, u); got != (roll.Change{}) {
				t.Fatalf("Apply(%v) behind Leave at %d = %v", u, own, got)
			}
		}
	}
}

// P9.3: that others say the own node is Gone does not let it leave.
func TestP93ToldGone(t *testing.T) {
	r, m := both(t, 6, 1)
	applyBoth(t, r, m, at(6, 1, gone))
	applyBoth(t, r, m, at(6, most, gone))
	if got := applyBoth(t, r, m, at(6, 2, suspect)); got.Kind != mine || !slices.Equal(r.Live(), []int{6}) {
		t.Errorf("Apply = %v, and there live %v", got, r.Live())
	}
}

// P9.4: Leave makes the own node Gone at its incarnation; a second time it says so, and false.
func TestP94Leave(t *testing.T) {
	for self := range nodes {
		for _, inc := range incs() {
			r, m := both(t, self, inc)
			applyBoth(t, r, m, at((self+3)%nodes, inc, suspect))
			want := at(self, inc, gone)
			for i := range 3 {
				if u, is := r.Leave(); u != want || is != (i == 0) {
					t.Fatalf("Leave %d of node %d at %d = %v, %t", i, self, inc, u, is)
				}
				m.leave()
				agree(t, r, m)
			}
		}
	}
}

// P9.4: Leave is at the incarnation that the node has come to.
func TestP94Later(t *testing.T) {
	r, m := both(t, 1, 2)
	applyBoth(t, r, m, at(1, 7, dead))
	if !leaveBoth(t, r, m) || r.Self() != at(1, 8, gone) {
		t.Errorf("Self behind Leave = %v", r.Self())
	}
	r, m = both(t, 1, 2)
	applyBoth(t, r, m, at(1, most, dead))
	if !leaveBoth(t, r, m) || r.Self() != at(1, 2, gone) {
		t.Errorf("Self of a stuck node behind Leave = %v", r.Self())
	}
}

// P9.4: a node that has left goes on to be told of others.
func TestP94Others(t *testing.T) {
	r, m := both(t, 1, 2)
	applyBoth(t, r, m, at(3, 1, alive))
	leaveBoth(t, r, m)
	for _, x := range []struct {
		u    api.Update
		kind int
	}{{at(0, 0, alive), fresh}, {at(3, 1, suspect), raised}, {at(3, 1, alive), none}, {at(4, 9, dead), fresh}} {
		if got := applyBoth(t, r, m, x.u); got.Kind != x.kind {
			t.Errorf("Apply(%v) behind Leave = %v", x.u, got)
		}
	}
	if leaveBoth(t, r, m) || !slices.Equal(r.Live(), []int{0, 3}) || !slices.Equal(r.Peers(), []int{0, 3}) {
		t.Errorf("there live %v, of them others %v", r.Live(), r.Peers())
	}
}

// P9.5: every status of every node, and which nodes live by it, in whatever order they were told.
func TestP95Statuses(t *testing.T) {
	for self := range nodes {
		for mix := range 4 * 4 * 4 {
			r, m := both(t, self, 1)
			for i := range nodes {
				node := (5*i + mix) % nodes
				if node != self {
					applyBoth(t, r, m, at(node, uint32(i), mix>>(2*(node%3))&3))
				}
			}
			if len(r.List()) != nodes || len(r.Live()) != len(r.Peers())+1 {
				t.Fatalf("List %v, Live %v, Peers %v", r.List(), r.Live(), r.Peers())
			}
			leaveBoth(t, r, m)
		}
	}
}

// P9.5: Get of any number; where there is no update about it, it is the zero one, and false.
func TestP95Get(t *testing.T) {
	r, m := both(t, 3, 4)
	for _, node := range []int{7, 0, 5} {
		applyBoth(t, r, m, at(node, uint32(node), dead))
	}
	for _, node := range ints() {
		got, is := r.Get(node)
		want, there := api.Update{}, false
		switch node {
		case 3:
			want, there = at(3, 4, alive), true
		case 0, 5, 7:
			want, there = at(node, uint32(node), dead), true
		}
		if got != want || is != there {
			t.Errorf("Get(%d) = %v, %t, want %v, %t", node, got, is, want, there)
		}
	}
}

// P9.5: asking changes nothing.
func TestP95Asking(t *testing.T) {
	c := chance(1)
	r, m := both(t, 3, 4)
	for range 200 {
		for _, node := range ints() {
			r.Get(node)
		}
		r.List()
		r.Live()
		r.Peers()
		r.Self()
		applyBoth(t, r, m, c.update())
	}
}

// P9.6: a roll that is not there, or that New did not make, does nothing.
func TestP96NoRoll(t *testing.T) {
	wrong, err := roll.New(nodes, 1)
	if err != errArg {
		t.Fatalf("New(%d, 1): error %d", nodes, err)
	}
	for _, r := range []*roll.Roll{nil, {}, new(roll.Roll), wrong} {
		for range 2 {
			for _, u := range append(some(0), at(1, 1, alive), at(-1, 1, alive)) {
				if got := r.Apply(u); got != (roll.Change{}) {
					t.Fatalf("Apply(%v) = %v", u, got)
				}
			}
			if u, is := r.Leave(); u != (api.Update{}) || is {
				t.Errorf("Leave = %v, %t", u, is)
			}
			if u := r.Self(); u != (api.Update{}) {
				t.Errorf("Self = %v", u)
			}
			for _, node := range ints() {
				if u, is := r.Get(node); u != (api.Update{}) || is {
					t.Errorf("Get(%d) = %v, %t", node, u, is)
				}
			}
			if len(r.List()) != 0 || len(r.Live()) != 0 || len(r.Peers()) != 0 {
				t.Errorf("List %v, Live %v, Peers %v", r.List(), r.Live(), r.Peers())
			}
		}
	}
}

// P9.7: no update becomes lower, whatever is applied, and whenever the node leaves.
func TestP97Never(t *testing.T) {
	c := chance(2)
	for range 300 {
		r, _ := roll.New(c.below(nodes), uint32(c.below(4)))
		before := r.List()
		for range 60 {
			if c.below(40) == 0 {
				r.Leave()
			} else {
				r.Apply(c.update())
			}
			for _, old := range before {
				if now, is := r.Get(old.Node); !is || rank.Above(old, now) {
					t.Fatalf("%v became %v, %t", old, now, is)
				}
			}
			before = r.List()
		}
	}
}

// P9.7: of the other nodes the table is what rank.Join has of all that was applied.
func TestP97Join(t *testing.T) {
	c := chance(3)
	for range 600 {
		self := c.below(nodes)
		r, _ := roll.New(self, uint32(c.below(4)))
		var all []api.Update
		other := func(u api.Update) bool { return u.Node != self }
		for range 40 {
			u := c.update()
			r.Apply(u)
			if other(u) {
				all = append(all, u)
			}
			var others []api.Update
			for _, u := range r.List() {
				if other(u) {
					others = append(others, u)
				}
			}
			if want := rank.Join(all, nil); !slices.Equal(others, want) {
				t.Fatalf("the table of others is %v, want %v", others, want)
			}
		}
	}
}

// P9.7: the order in which others are told of does not count.
func TestP97AnyOrder(t *testing.T) {
	c := chance(4)
	for range 300 {
		l := make([]api.Update, 20)
		for i := range l {
			l[i] = c.update()
			l[i].Node = c.below(nodes - 1)
		}
		one, _ := both(t, 7, 1)
		two, _ := both(t, 7, 1)
		for i := range l {
			one.Apply(l[i])
			two.Apply(l[(i*7+3)%len(l)])
		}
		if !slices.Equal(one.List(), two.List()) {
			t.Fatalf("of %v there is %v, and in another order %v", l, one.List(), two.List())
		}
	}
}

// P9.7: a node that is neither stuck nor has left is Alive, and above all else that it was told of itself.
func TestP97Own(t *testing.T) {
	c := chance(5)
	for range 600 {
		self := c.below(nodes)
		r, _ := roll.New(self, uint32(c.below(4)))
		var heard []api.Update
		for range 40 {
			u := c.update()
			if c.below(2) == 0 {
				u.Node = self
			}
			if r.Apply(u).Kind == stuck {
				break
			}
			if u.Node == self && valid(u) {
				heard = append(heard, u)
			}
			own := r.Self()
			if own.Node != self || own.Status != alive {
				t.Fatalf("Self = %v", own)
			}
			for _, u := range heard {
				if u != own && !rank.Above(own, u) {
					t.Fatalf("Self = %v is not above %v", own, u)
				}
			}
		}
	}
}

// P9.2 to P9.5: through any calls a roll does as the chapter's words have it.
func TestAny(t *testing.T) {
	c := chance(6)
	for range 400 {
		r, m := both(t, c.below(nodes), uint32(c.below(4)))
		for range 80 {
			if c.below(60) == 0 {
				leaveBoth(t, r, m)
			} else {
				applyBoth(t, r, m, c.update())
			}
		}
	}
}

// R3: what List, Live and Peers answer shares no memory with the roll, nor with another answer.
func TestResults(t *testing.T) {
	r, m := both(t, 4, 1)
	for _, u := range []api.Update{at(6, 1, alive), at(0, 2, suspect), at(2, 3, dead), at(7, 1, alive)} {
		applyBoth(t, r, m, u)
	}
	for range 3 {
		kept, live, peers := r.List(), r.Live(), r.Peers()
		list := r.List()
		for l := list[:cap(list)]; len(l) > 0; l = l[1:] {
			l[0] = at(9, 9, 9)
		}
		for _, l := range [][]int{r.Live(), r.Peers()} {
			for l := l[:cap(l)]; len(l) > 0; l = l[1:] {
				l[0] = -5
			}
		}
		if !slices.Equal(kept, m.list()) || !slices.Equal(live, m.live()) || !slices.Equal(peers, []int{0, 6, 7}) {
			t.Fatalf("answers were changed by way of others: %v, %v, %v", kept, live, peers)
		}
		agree(t, r, m)
	}
}

// R3: an answer stays as it is, whatever is applied later.
func TestKept(t *testing.T) {
	r, m := both(t, 4, 1)
	applyBoth(t, r, m, at(6, 1, alive))
	list, live, peers := r.List(), r.Live(), r.Peers()
	for node := range nodes {
		applyBoth(t, r, m, at(node, 9, dead))
	}
	leaveBoth(t, r, m)
	if !slices.Equal(list, []api.Update{at(4, 1, alive), at(6, 1, alive)}) || !slices.Equal(live, []int{4, 6}) || !slices.Equal(peers, []int{6}) {
		t.Errorf("answers were changed: %v, %v, %v", list, live, peers)
	}
}

// R4: two rolls share nothing.
func TestTwo(t *testing.T) {
	one, m := both(t, 4, 1)
	two, k := both(t, 4, 1)
	for node := range nodes {
		applyBoth(t, one, m, at(node, 9, suspect))
		agree(t, two, k)
	}
	leaveBoth(t, two, k)
	agree(t, one, m)
}
