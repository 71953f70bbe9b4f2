package rank_test

import (
	"math"
	"slices"
	"testing"

	"sodality/api"
	"sodality/rank"
)

// The numbers of the chapter: how many nodes there may be, the statuses, the greatest incarnation, and the error where it is reached.
const (
	nodes   = 8
	alive   = 0
	suspect = 1
	dead    = 2
	gone    = 3
	most    = 1<<32 - 1
	errMax  = 80
)

// at is an update.
func at(node int, inc uint32, status int) api.Update {
	return api.Update{Node: node, Inc: inc, Status: status}
}

// ints is nodes and statuses: all that may be, those around them, and where integers of any width end.
func ints() []int {
	l := []int{math.MinInt, math.MinInt + 1, math.MinInt32, math.MaxInt32, math.MaxInt - 1, math.MaxInt, -256, 256, 255, 1 << 32, 1<<32 + 3, -1 << 32, 1 << 62}
	for n := -9; n <= 17; n++ {
		l = append(l, n)
	}
	return l
}

// incs is incarnations: small ones, great ones, and those around where the sign of narrower numbers turns.
func incs() []uint32 {
	return []uint32{0, 1, 2, 3, 5, 255, 256, 1<<16 - 1, 1 << 16, 1<<31 - 1, 1 << 31, 1<<31 + 1, most - 2, most - 1, most}
}

// chance is numbers that follow from a seed.
type chance uint64

// below is the next number, from 0 to n-1.
func (c *chance) below(n int) int {
	*c = *c*6364136223846793005 + 1442695040888963407
	return int(uint64(*c)>>33) % n
}

// update is any update: of few incarnations, so that they often meet, and now and then one that may not be.
func (c *chance) update() api.Update {
	all := incs()
	u := at(c.below(nodes), uint32(c.below(3)), c.below(gone+1))
	switch c.below(12) {
	case 0:
		u.Node = ints()[c.below(len(ints()))]
	case 1:
		u.Status = ints()[c.below(len(ints()))]
	case 2, 3, 4:
		u.Inc = all[c.below(len(all))]
	}
	return u
}

// list is at most n-1 updates in any order.
func (c *chance) list(n int) []api.Update {
	l := make([]api.Update, c.below(n))
	for i := range l {
		l[i] = c.update()
	}
	return l
}

// valid is what the chapter says of a valid update, one node and one status after the other.
func valid(u api.Update) bool {
	node, status := false, false
	for n := range nodes {
		node = node || u.Node == n
	}
	for _, s := range []int{alive, suspect, dead, gone} {
		status = status || u.Status == s
	}
	return node && status
}

// higher is what the chapter says of an update that is above another one.
func higher(a, b api.Update) bool {
	greater := int64(a.Inc) > int64(b.Inc)
	equal := int64(a.Inc) == int64(b.Inc)
	return a.Node == b.Node && (greater || equal && a.Status > b.Status)
}

// joined is what P8.2 says of Join: about each node the valid update of the lists above which there is no other one.
func joined(lists ...[]api.Update) []api.Update {
	all := slices.DeleteFunc(slices.Concat(lists...), func(u api.Update) bool { return !valid(u) })
	var out []api.Update
	for node := range nodes {
		for _, u := range all {
			if u.Node == node && !slices.ContainsFunc(all, func(o api.Update) bool { return higher(o, u) }) {
				out = append(out, u)
				break
			}
		}
	}
	return out
}

// some is updates of a few nodes, incarnations and statuses, right and wrong ones.
func some() []api.Update {
	var l []api.Update
	for _, node := range []int{0, 1, 7, 8, -1, math.MaxInt, math.MinInt} {
		for _, inc := range []uint32{0, 1, 2, 1 << 31, most - 1, most} {
			for _, status := range []int{alive, suspect, dead, gone, gone + 1, -1, math.MaxInt, math.MinInt} {
				l = append(l, at(node, inc, status))
			}
		}
	}
	return l
}

// P8.1: an update is valid by its node and by its status, and of any incarnation.
func TestP81Right(t *testing.T) {
	for _, node := range ints() {
		for _, status := range ints() {
			for _, inc := range incs() {
				u := at(node, inc, status)
				if got, want := rank.Right(u), valid(u); got != want {
					t.Errorf("Right(%v) = %t, want %t", u, got, want)
				}
			}
		}
	}
	n := 0
	for node := -100; node < 300; node++ {
		for status := -100; status < 300; status++ {
			if rank.Right(at(node, 7, status)) {
				n++
			}
		}
	}
	if n != nodes*4 {
		t.Errorf("%d updates of an incarnation are valid, want %d", n, nodes*4)
	}
}

// P8.1: of two updates about one node the greater incarnation is above, whatever the statuses.
func TestP81AboveIncarnation(t *testing.T) {
	for _, node := range ints() {
		for i, low := range incs() {
			for _, high := range incs()[i+1:] {
				for _, a := range []int{alive, suspect, dead, gone, -1, 4, math.MinInt, math.MaxInt} {
					for _, b := range []int{alive, suspect, dead, gone, -1, 4, math.MinInt, math.MaxInt} {
						if !rank.Above(at(node, high, a), at(node, low, b)) || rank.Above(at(node, low, b), at(node, high, a)) {
							t.Fatalf("node %d: %d with status %d is not above %d with status %d", node, high, a, low, b)
						}
					}
				}
			}
		}
	}
}

// P8.1: at one incarnation the greater status is above: Alive, Suspect, Dead, Gone.
func TestP81AboveStatus(t *testing.T) {
	rising := []int{alive, suspect, dead, gone}
	for node := range nodes {
		for _, inc := range incs() {
			for i, a := range rising {
				for j, b := range rising {
					if got := rank.Above(at(node, inc, a), at(node, inc, b)); got != (i > j) {
						t.Fatalf("Above(%d at %d with %d, with %d) = %t", node, inc, a, b, got)
					}
				}
			}
		}
	}
}

// P8.1: updates about two nodes are not above one another.
func TestP81AboveNodes(t *testing.T) {
	for _, a := range ints() {
		for _, b := range ints() {
			for _, inc := range incs() {
				if a != b && (rank.Above(at(a, inc, gone), at(b, 0, alive)) || rank.Above(at(b, inc, gone), at(a, 0, alive))) {
					t.Fatalf("an update about %d is above one about %d, or the other way round", a, b)
				}
			}
		}
	}
}

// P8.1: Above and Best for any two updates, right or wrong; where none is above, Best is the first one.
func TestP81Any(t *testing.T) {
	for _, a := range some() {
		for _, b := range some() {
			if got := rank.Above(a, b); got != higher(a, b) {
				t.Fatalf("Above(%v, %v) = %t", a, b, got)
			}
			want := a
			if higher(b, a) {
				want = b
			}
			if got := rank.Best(a, b); got != want {
				t.Fatalf("Best(%v, %v) = %v, want %v", a, b, got, want)
			}
		}
	}
	c := chance(1)
	for range 50000 {
		a, b := c.update(), c.update()
		if c.below(2) == 0 {
			b.Node = a.Node
		}
		if got := rank.Above(a, b); got != higher(a, b) {
			t.Fatalf("Above(%v, %v) = %t", a, b, got)
		}
		if got := rank.Best(a, b); got != a && (got != b || !higher(b, a)) || got != b && higher(b, a) {
			t.Fatalf("Best(%v, %v) = %v", a, b, got)
		}
	}
}

// The examples of the chapter.
func TestExamples(t *testing.T) {
	if !rank.Above(at(1, 3, suspect), at(1, 3, alive)) || rank.Above(at(1, 3, dead), at(1, 4, alive)) || rank.Above(at(1, 9, alive), at(2, 1, alive)) {
		t.Error("Above: not as the examples have it")
	}
	got := rank.Join([]api.Update{at(1, 3, suspect)}, []api.Update{at(0, 1, alive), at(1, 2, dead)})
	if want := []api.Update{at(0, 1, alive), at(1, 3, suspect)}; !slices.Equal(got, want) {
		t.Errorf("Join = %v, want %v", got, want)
	}
	if n, err := rank.Refute(5, at(1, 7, suspect)); n != 8 || err != api.OK {
		t.Errorf("Refute = %d, %d, want 8", n, err)
	}
	if n, err := rank.Refute(5, at(1, most, dead)); n != 0 || err != errMax {
		t.Errorf("Refute = %d, %d, want an error", n, err)
	}
}

// agree fails where Join answers something else than the chapter's words.
func agree(t *testing.T, a, b []api.Update) {
	t.Helper()
	if got, want := rank.Join(a, b), joined(a, b); !slices.Equal(got, want) {
		t.Fatalf("Join(%v, %v) = %v, want %v", a, b, got, want)
	}
}

// P8.2: lists without an update, or without a valid one, have no table.
func TestP82Empty(t *testing.T) {
	wrong := slices.DeleteFunc(some(), valid)
	for _, l := range [][]api.Update{nil, {}, wrong, wrong[:1]} {
		for _, m := range [][]api.Update{nil, {}, wrong, wrong[2:3]} {
			if got := rank.Join(l, m); len(got) != 0 {
				t.Errorf("Join of no valid updates = %v", got)
			}
		}
	}
}

// P8.2: any one update, in either list and alone: a valid one is there, another one is not.
func TestP82One(t *testing.T) {
	for _, node := range ints() {
		for _, status := range ints() {
			for _, inc := range incs() {
				l := []api.Update{at(node, inc, status)}
				agree(t, l, nil)
				agree(t, nil, l)
				agree(t, l, l)
			}
		}
	}
}

// P8.2: any two updates, in one list in either order, or one in each.
func TestP82Two(t *testing.T) {
	all := some()
	for _, a := range all {
		for _, b := range all {
			agree(t, []api.Update{a}, []api.Update{b})
			agree(t, []api.Update{a, b}, nil)
			agree(t, nil, []api.Update{a, b})
		}
	}
}

// P8.2: a valid update about each node, in any order, comes back with the nodes rising; the zero update too is one.
func TestP82All(t *testing.T) {
	var table []api.Update
	for node := range nodes {
		table = append(table, at(node, uint32(node), node%4))
	}
	for turn := range nodes {
		l := slices.Concat(table[turn:], table[:turn])
		m := slices.Clone(l)
		slices.Reverse(m)
		for _, x := range [][]api.Update{l, m} {
			for cut := range nodes + 1 {
				if got := rank.Join(x[:cut], x[cut:]); !slices.Equal(got, table) {
					t.Fatalf("Join(%v, %v) = %v", x[:cut], x[cut:], got)
				}
			}
		}
	}
	if got := rank.Join(nil, []api.Update{{}}); !slices.Equal(got, []api.Update{{}}) {
		t.Errorf("Join of the zero update = %v", got)
	}
}

// P8.2: a wrong update neither counts nor hides a valid one, however great it is.
func TestP82Wrong(t *testing.T) {
	for node := range nodes {
		right := at(node, 0, alive)
		for _, status := range []int{-1, 4, 5, math.MaxInt, math.MinInt} {
			for _, inc := range incs() {
				wrong := []api.Update{at(node, inc, status), at(node+nodes, inc, gone), at(node-nodes, inc, gone)}
				for _, l := range [][]api.Update{rank.Join(wrong, []api.Update{right}), rank.Join([]api.Update{right}, wrong), rank.Join(append(wrong, right), wrong)} {
					if !slices.Equal(l, []api.Update{right}) {
						t.Fatalf("Join of %v with wrong updates = %v", right, l)
					}
				}
			}
		}
	}
}

// P8.2: any two lists, with many updates about a node, in any order, right and wrong ones.
func TestP82Any(t *testing.T) {
	c := chance(2)
	for range 6000 {
		agree(t, c.list(20), c.list(20))
	}
	for range 20 {
		agree(t, c.list(600), c.list(600))
	}
}

// P8.2: Find is the first update about a node, whether or not it is valid or the greatest one.
func TestP82Find(t *testing.T) {
	c := chance(3)
	for range 3000 {
		l := c.list(30)
		for _, node := range ints() {
			want, is := api.Update{}, false
			if i := slices.IndexFunc(l, func(u api.Update) bool { return u.Node == node }); i >= 0 {
				want, is = l[i], true
			}
			if got, found := rank.Find(l, node); got != want || found != is {
				t.Fatalf("Find(%v, %d) = %v, %t, want %v, %t", l, node, got, found, want, is)
			}
		}
	}
}

// P8.2: Find in a list without an update about the node, and with several of them.
func TestP82FindEdges(t *testing.T) {
	for _, node := range ints() {
		for _, l := range [][]api.Update{nil, {}, {at(node^1, 4, dead)}, {at(node^2, 4, dead), at(node^4, 5, gone)}} {
			if u, is := rank.Find(l, node); u != (api.Update{}) || is {
				t.Errorf("Find(%v, %d) = %v, %t", l, node, u, is)
			}
		}
		l := []api.Update{at(node^1, 9, gone), at(node, 2, suspect), at(node, 3, dead), at(node, 2, suspect)}
		if u, is := rank.Find(l, node); u != l[1] || !is {
			t.Errorf("Find(%v, %d) = %v, %t", l, node, u, is)
		}
		if u, is := rank.Find([]api.Update{{Node: node, Status: -7}}, node); u != at(node, 0, -7) || !is {
			t.Errorf("Find(.., %d) of a wrong update = %v, %t", node, u, is)
		}
	}
}

// P8.3: Refute is one more than the greater incarnation, whatever else the update says; where that is the greatest one there is none.
func TestP83Refute(t *testing.T) {
	all := incs()
	for i := range uint32(32) {
		all = append(all, 1<<i-1, 1<<i, 1<<i+1, most-1<<i)
	}
	for _, own := range all {
		for _, inc := range all {
			for _, u := range []api.Update{at(0, inc, alive), at(3, inc, suspect), at(7, inc, dead), at(1, inc, gone), at(8, inc, 4), at(-1, inc, -1), at(math.MaxInt, inc, math.MinInt)} {
				want, wrong := max(int64(own), int64(inc))+1, api.OK
				if want > most {
					want, wrong = 0, errMax
				}
				if got, err := rank.Refute(own, u); int64(got) != want || err != wrong {
					t.Fatalf("Refute(%d, %v) = %d, %d, want %d, %d", own, u, got, err, want, wrong)
				}
			}
		}
	}
}

// P8.4: of two different updates about a node exactly one is above the other; none is above itself.
func TestP84Exactly(t *testing.T) {
	for _, a := range some() {
		for _, b := range some() {
			one, two := rank.Above(a, b), rank.Above(b, a)
			if one && two || a.Node == b.Node && (one || two) != (a != b) {
				t.Fatalf("Above(%v, %v) = %t, and the other way round %t", a, b, one, two)
			}
			if a.Node == b.Node && rank.Best(a, b) != rank.Best(b, a) {
				t.Fatalf("Best(%v, %v) = %v, and the other way round %v", a, b, rank.Best(a, b), rank.Best(b, a))
			}
		}
	}
}

// P8.4: what is above an update is above all that it is above.
func TestP84Order(t *testing.T) {
	l := slices.DeleteFunc(some(), func(u api.Update) bool { return u.Node != 7 })
	for _, a := range l {
		for _, b := range l {
			for _, c := range l {
				if rank.Above(a, b) && rank.Above(b, c) && !rank.Above(a, c) {
					t.Fatalf("%v is above %v, that is above %v, and the first one is not above the last", a, b, c)
				}
			}
		}
	}
}

// P8.4: Join does not hang on which list is first, on how lists are grouped, and on what is there twice.
func TestP84Join(t *testing.T) {
	c := chance(4)
	for range 4000 {
		k, l, m := c.list(14), c.list(14), c.list(14)
		if one, two := rank.Join(k, l), rank.Join(l, k); !slices.Equal(one, two) {
			t.Fatalf("Join(%v, %v) = %v, and the other way round %v", k, l, one, two)
		}
		if one, two := rank.Join(rank.Join(k, l), m), rank.Join(k, rank.Join(l, m)); !slices.Equal(one, two) || !slices.Equal(one, joined(k, l, m)) {
			t.Fatalf("Join of %v, %v and %v is %v, or %v", k, l, m, one, two)
		}
		if one, two := rank.Join(k, k), rank.Join(k, nil); !slices.Equal(one, two) {
			t.Fatalf("Join(%v) with itself = %v, with nothing %v", k, one, two)
		}
		table := rank.Join(k, l)
		if again := rank.Join(table, k); !slices.Equal(again, table) || !slices.Equal(rank.Join(table, nil), table) {
			t.Fatalf("Join of the table %v with what it is of = %v", table, again)
		}
		for i, u := range table {
			if !rank.Right(u) || i > 0 && table[i-1].Node >= u.Node {
				t.Fatalf("Join(%v, %v) = %v, which is no table", k, l, table)
			}
		}
	}
}

// P8.4: a node that is Alive at the incarnation of Refute is above what it contradicts, and above what it was.
func TestP84Refute(t *testing.T) {
	for _, own := range incs() {
		for _, u := range some() {
			inc, err := rank.Refute(own, u)
			if err != api.OK {
				continue
			}
			now := at(u.Node, inc, alive)
			if !rank.Above(now, u) || !rank.Above(now, at(u.Node, own, gone)) {
				t.Fatalf("%v is not above %v, nor above incarnation %d", now, u, own)
			}
		}
	}
}

// R3: the lists that are passed are not changed, nor their spare room.
func TestArguments(t *testing.T) {
	c := chance(5)
	for range 500 {
		a, b := c.list(30), c.list(30)
		x, y := slices.Clone(a), slices.Clone(b)
		i, j := c.below(len(a)+1), c.below(len(b)+1)
		rank.Join(a[:i], b[:j])
		rank.Find(a[:i], c.below(nodes))
		if !slices.Equal(a, x) || !slices.Equal(b, y) {
			t.Fatalf("a list was changed: %v and %v, which were %v and %v", a, b, x, y)
		}
	}
}

// R3: what Join answers shares no memory with its lists, nor with another answer.
func TestResults(t *testing.T) {
	c := chance(6)
	for range 500 {
		a, b := c.list(30), c.list(30)
		want := joined(a, b)
		table := rank.Join(want, nil)
		one, two := rank.Join(a, b), rank.Join(a, b)
		for l := one[:cap(one)]; len(l) > 0; l = l[1:] {
			l[0] = at(-3, 9, 9)
		}
		if !slices.Equal(two, want) || !slices.Equal(rank.Join(a, b), want) {
			t.Fatalf("an answer was changed by way of another one: %v, want %v", two, want)
		}
		clear(a)
		clear(b)
		if !slices.Equal(two, want) {
			t.Fatalf("an answer was changed by way of a list: %v, want %v", two, want)
		}
		kept := slices.Clone(want)
		for i := range table {
			table[i] = at(-3, 9, 9)
		}
		if !slices.Equal(want, kept) {
			t.Fatal("a list was changed by way of its answer")
		}
	}
}
