package swim_test

import (
	"math"
	"slices"
	"testing"

	"sodality/api"
	"sodality/doubt"
	"sodality/speech"
	"sodality/swim"
)

// brisk is a configuration in which everything happens soon.
func brisk() api.Swim {
	return api.Swim{Period: 5, Wait: 2, Indirect: 2, Least: 4, Most: 12, Want: 2, Mult: 2, Piggy: 4, Gossip: 3, Fanout: 2, Sync: 9}
}

// quiet is a configuration in which nothing happens by itself for 1000 ticks, but for suspicions.
func quiet() api.Swim {
	return api.Swim{Period: 4000, Wait: 1000, Indirect: 2, Least: 4, Most: 12, Want: 2, Mult: 2, Piggy: 4, Gossip: 1000, Fanout: 2, Sync: 4000}
}

// chance is numbers that follow from a seed.
type chance uint64

// below is the next number, from 0 to n-1.
func (c *chance) below(n int) int {
	*c = *c*6364136223846793005 + 1442695040888963407
	return int(uint64(*c)>>33) % n
}

// numbers is so many numbers to draw with.
func (c *chance) numbers(n int) []uint32 {
	l := make([]uint32, n)
	for i := range l {
		l[i] = uint32(c.below(1<<16)<<16 | c.below(1<<16))
	}
	return l
}

// ints is numbers of any kind: those around the bounds of configurations and nodes, and where integers of any width end.
func ints() []int {
	l := []int{math.MinInt, math.MinInt + 1, math.MinInt32, math.MaxInt32, math.MaxInt - 1, math.MaxInt, -256, 255, 256, 1 << 32, 1<<32 + 3, 1 << 62, 1<<62 + 1}
	for _, n := range []int{500, 1000, 2000, 4000, longest} {
		l = append(l, n-2, n-1, n, n+1, n+2)
	}
	for n := -9; n <= 18; n++ {
		l = append(l, n)
	}
	return l
}

// parts is the places of a configuration's numbers.
func parts(c *api.Swim) []*int {
	return []*int{&c.Period, &c.Wait, &c.Indirect, &c.Least, &c.Most, &c.Want, &c.Mult, &c.Piggy, &c.Gossip, &c.Fanout, &c.Sync}
}

// valid is what the chapter says of a valid configuration, and chapter 11 of the numbers of a suspicion.
func valid(c api.Swim) bool {
	switch {
	case c.Wait < 1, c.Wait > 1000, c.Period <= 2*c.Wait, c.Period > 4000, c.Indirect < 0, c.Indirect > 4:
		return false
	case c.Least < 1, c.Most < c.Least, c.Most > longest, c.Want < 0, c.Want > 8:
		return false
	case c.Mult < 1, c.Mult > 8, c.Piggy < 1, c.Piggy > 16:
		return false
	case c.Gossip < 1, c.Gossip > 1000, c.Fanout < 1, c.Fanout > 4, c.Sync < 1, c.Sync > 4000:
		return false
	}
	return true
}

// meet lets a node be told some updates, by another one.
func meet(t *testing.T, s *swim.Swim, from int, us ...api.Update) {
	t.Helper()
	self := s.Self().Node
	expect(t, self, s.Receive(to(self, tell(from, us...)).packet(t, from)))
}

// hear lets a node receive a packet of some messages from another one.
func hear(t *testing.T, s *swim.Swim, from int, l ...api.Msg) []api.Packet {
	t.Helper()
	return s.Receive(to(s.Self().Node, l...).packet(t, from))
}

// drain lets a node pass on all its rumors, with answers to a peer.
func drain(t *testing.T, s *swim.Swim, peer int) {
	t.Helper()
	for n := 0; len(s.Rumors()) > 0; n++ {
		if n > 200 {
			t.Fatalf("the rumors do not end: %v", s.Rumors())
		}
		hear(t, s, peer, ping(9, peer, s.Self().Node))
	}
}

// among is a node that knows others, alive at 1, and has told what it knows of them to the first one.
func among(t *testing.T, c api.Swim, self int, others []int, draws ...uint32) *swim.Swim {
	t.Helper()
	s := made(t, c, self, 1, draws...)
	for _, other := range others {
		meet(t, s, others[0], at(other, 1, alive))
	}
	drain(t, s, others[0])
	return s
}

// rest lets a node tick, so many times, without sending anything.
func rest(t *testing.T, s *swim.Swim, ticks int) {
	t.Helper()
	for range ticks {
		expect(t, s.Self().Node, s.Tick())
	}
}

// last is the last n events of a node.
func last(s *swim.Swim, n int) []api.Update {
	l := s.Events()
	return l[max(len(l)-n, 0):]
}

// stand is how a node's view stands about another one.
func stand(s *swim.Swim, node int) api.Update {
	for _, u := range s.View() {
		if u.Node == node {
			return u
		}
	}
	return at(-1, 0, 0)
}

// rumors is a node's rumors without how often they were passed on.
func rumors(s *swim.Swim) []api.Update {
	var l []api.Update
	for _, r := range s.Rumors() {
		l = append(l, r.U)
	}
	return l
}

// The chapter's example.
func TestExample(t *testing.T) {
	c := api.Swim{Period: 5, Wait: 2, Indirect: 1, Least: 3, Most: 3, Want: 0, Mult: 1, Piggy: 2, Gossip: 3, Fanout: 1, Sync: 9}
	a, b := made(t, c, 0, 1), made(t, c, 1, 4)
	out := a.Join(1)
	expect(t, 0, out, to(1, tables(0, at(0, 1, alive))))
	out = b.Receive(out[0])
	expect(t, 1, out, to(0, reply(1, at(0, 1, alive), at(1, 4, alive)), tell(1, at(0, 1, alive))))
	expect(t, 0, a.Receive(out[0]))
	if l := a.View(); !slices.Equal(l, []api.Update{at(0, 1, alive), at(1, 4, alive)}) {
		t.Errorf("View = %v", l)
	}
	for tick := 1; tick <= 9; tick++ {
		pings := 0
		for _, x := range read(a.Tick()) {
			if x.l[0].Kind == kPing {
				pings++
			}
		}
		if pings == 1 != (tick == 5) {
			t.Errorf("tick %d: %d pings", tick, pings)
		}
		want := at(1, 4, alive)
		if tick == 9 {
			want.Status = suspect
		}
		if u := stand(a, 1); u != want {
			t.Errorf("tick %d: %v, want %v", tick, u, want)
		}
	}
}

// P14.1: Right takes each number of a configuration, and each two of them, just within their bounds; New takes the same.
func TestP141Right(t *testing.T) {
	for _, base := range []api.Swim{brisk(), quiet()} {
		for i := range parts(&base) {
			for j := range i + 1 {
				for _, x := range ints() {
					for _, y := range ints() {
						c := base
						*parts(&c)[i], *parts(&c)[j] = x, y
						want := valid(c)
						if got := swim.Right(c); got != want {
							t.Fatalf("Right(%+v) = %t, want %t", c, got, want)
						}
					}
				}
			}
		}
	}
	if swim.Right(api.Swim{}) {
		t.Error("Right takes a configuration of zeros")
	}
}

// P14.1: the bounds, number by number: the least and the greatest that may be, and those beside them.
func TestP141Bounds(t *testing.T) {
	base := api.Swim{Period: 2001, Wait: 1, Indirect: 0, Least: 5, Most: 9, Want: 0, Mult: 1, Piggy: 1, Gossip: 1, Fanout: 1, Sync: 1}
	for i, x := range [][2]int{{3, 4000}, {1, 1000}, {0, 4}, {1, 9}, {5, 262144}, {0, 8}, {1, 8}, {1, 16}, {1, 1000}, {1, 4}, {1, 4000}} {
		for n, want := range map[int]bool{x[0] - 1: false, x[0]: true, x[1]: true, x[1] + 1: false} {
			c := base
			*parts(&c)[i] = n
			if got := swim.Right(c); got != want {
				t.Errorf("Right(%+v) = %t", c, got)
			}
			if s, err := swim.New(c, 0, 1, nil); (s != nil) != want || (err == api.OK) != want {
				t.Errorf("New(%+v) = %v, %d", c, s, err)
			}
		}
	}
	for _, x := range []struct {
		wait, period int
		want         bool
	}{{1, 2, false}, {1, 3, true}, {2, 4, false}, {2, 5, true}, {999, 1998, false}, {999, 1999, true}, {1000, 2000, false}, {1000, 2001, true}} {
		c := base
		c.Wait, c.Period = x.wait, x.period
		if got := swim.Right(c); got != x.want {
			t.Errorf("Right with Wait %d and Period %d = %t", x.wait, x.period, got)
		}
	}
}

// P14.1: New is a node that knows itself alone; a wrong configuration, or a number that is no node, is an error.
func TestP141New(t *testing.T) {
	wrong := quiet()
	wrong.Fanout = 0
	for _, self := range ints() {
		for _, inc := range []uint32{0, 1, 1 << 31, most} {
			s, err := swim.New(quiet(), self, inc, []uint32{1})
			if self < 0 || self >= nodes {
				if s != nil || err != errArg {
					t.Fatalf("New(%d) = %v, %d", self, s, err)
				}
				continue
			}
			own := at(self, inc, alive)
			if s == nil || err != api.OK || !slices.Equal(s.View(), []api.Update{own}) || !slices.Equal(s.Live(), []int{self}) || s.Self() != own {
				t.Fatalf("New(%d, %d): %d, %v, %v, %v", self, inc, err, s.View(), s.Live(), s.Self())
			}
			if len(s.Rumors()) > 0 || len(s.Events()) > 0 || s.Counts() != (swim.Counts{}) {
				t.Fatalf("New(%d) has %v, %v, %v", self, s.Rumors(), s.Events(), s.Counts())
			}
			if s, err := swim.New(wrong, self, inc, nil); s != nil || err != errArg {
				t.Fatalf("New of a wrong configuration = %v, %d", s, err)
			}
		}
	}
}

// P14.1: the timers 1, 2 and 3 expire first behind Period, Gossip and Sync ticks, and then again and again.
func TestP141Timers(t *testing.T) {
	for _, x := range [][3]int{{5, 3, 9}, {3, 1, 1}, {4000, 1000, 4000}, {3999, 999, 3998}, {7, 7, 7}, {64, 65, 63}, {11, 130, 4}} {
		c := api.Swim{Period: x[0], Wait: 1, Least: 1, Most: 1, Mult: 8, Piggy: 1, Gossip: x[1], Fanout: 1, Sync: x[2]}
		s := made(t, c, 0, 1)
		ticks := min(3*max(x[0], x[1], x[2]), 8001)
		for tick := 1; tick <= ticks; tick++ {
			// A new incarnation each time: so the node lives, and there is always something to tell.
			meet(t, s, 1, at(1, uint32(tick), alive))
			var kinds, want []int
			for _, y := range read(s.Tick()) {
				kinds = append(kinds, y.l[0].Kind)
				if y.l[0].Kind == kPing {
					hear(t, s, 1, ack(y.l[0].Seq, 1))
				}
			}
			for i, kind := range []int{kPing, kTell, kTables} {
				if tick%x[i] == 0 {
					want = append(want, kind)
				}
			}
			if !slices.Equal(kinds, want) {
				t.Fatalf("%v: tick %d has sent kinds %v, want %v", x, tick, kinds, want)
			}
		}
	}
}

// P14.5: Held tells of each suspicion, and of no other node.
func TestP145Held(t *testing.T) {
	c := quiet()
	c.Least, c.Most, c.Want = 10, 50, 3
	s := among(t, c, 0, []int{1, 2, 3, 4, 5})
	meet(t, s, 1, at(2, 7, suspect))
	rest(t, s, 3)
	meet(t, s, 3, at(2, 7, suspect), at(4, 0, suspect), at(4, 1, suspect))
	rest(t, s, 1)
	for _, n := range ints() {
		got, is := s.Held(n)
		var want swim.Held
		switch n {
		case 2:
			want = swim.Held{Inc: 7, Have: 1, Elapsed: 4, Wait: 30}
		case 4:
			want = swim.Held{Inc: 1, Have: 0, Elapsed: 1, Wait: 50}
		}
		if got != want || is != (n == 2 || n == 4) {
			t.Errorf("Held(%d) = %+v, %t, want %+v", n, got, is, want)
		}
	}
}

// P14.5: what the node tells of itself is what it has come to; Events has all of it, in order.
func TestP145Events(t *testing.T) {
	s := made(t, quiet(), 3, 6)
	l := []api.Update{at(1, 1, alive), at(5, 2, dead), at(1, 1, suspect), at(1, 2, alive), at(0, 0, gone), at(5, 3, suspect)}
	meet(t, s, 1, l...)
	expect(t, 3, hear(t, s, 1, tell(1, at(3, 6, suspect))), to(1, tell(3, at(3, 7, alive))), to(5, tell(3, at(3, 7, alive))))
	meet(t, s, 1, at(5, 2, dead), at(1, 2, alive))
	if got := s.Events(); !slices.Equal(got, append(slices.Clone(l), at(3, 7, alive))) {
		t.Errorf("Events = %v", got)
	}
	if got := s.View(); !slices.Equal(got, []api.Update{at(0, 0, gone), at(1, 2, alive), at(3, 7, alive), at(5, 3, suspect)}) {
		t.Errorf("View = %v", got)
	}
	if got := s.Live(); !slices.Equal(got, []int{1, 3, 5}) {
		t.Errorf("Live = %v", got)
	}
	if got := s.Rumors(); !slices.Equal(got, []api.Rumor{{U: at(3, 7, alive)}, {U: at(5, 3, suspect)}, {U: at(0, 0, gone)}, {U: at(1, 2, alive)}}) {
		t.Errorf("Rumors = %v", got)
	}
}

// R3: what a node tells is new memory, and what it is given stays as it was.
func TestMemory(t *testing.T) {
	draws := []uint32{7 << 28, 3 << 28, 12 << 28, 1 << 28}
	p, q := both(t, brisk(), 0, 1, draws...), both(t, brisk(), 0, 1, draws...)
	given := slices.Clone(draws)
	s, _ := swim.New(brisk(), 0, 1, given)
	for i := range given {
		given[i] = 0
	}
	x := to(0, tell(1, at(1, 1, alive), at(2, 1, suspect), at(3, 1, alive)), ping(4, 1, 0)).packet(t, 1)
	body := append(slices.Clone(x.Body), 91, 92, 93)[:len(x.Body)]
	got := s.Receive(api.Packet{From: 1, To: 0, Body: body})
	if !slices.Equal(body, x.Body) || !slices.Equal(body[:len(body)+3][len(body):], []byte{91, 92, 93}) {
		t.Errorf("the packet has become %v", body)
	}
	for i := range body {
		body[i] = 0
	}
	expect(t, 0, got, read(p.receive(x))...)
	q.receive(x)
	spoil(got, s)
	spoil(p.join(1), p.s)
	spoil(q.join(1), q.s)
	s.Join(1)
	for range 40 {
		want := read(p.tick())
		expect(t, 0, q.tick(), want...)
		got := s.Tick()
		expect(t, 0, got, want...)
		spoil(got, s)
	}
}

// spoil writes over all that a node has handed out.
func spoil(l []api.Packet, s *swim.Swim) {
	for _, p := range l {
		for i := range p.Body {
			p.Body[i] = 0xee
		}
	}
	for _, us := range [][]api.Update{s.View(), s.Events()} {
		for i := range us {
			us[i] = at(6, 6, 6)
		}
		_ = append(us, at(6, 6, 6))
	}
	live, queue := s.Live(), s.Rumors()
	for i := range live {
		live[i] = 6
	}
	for i := range queue {
		queue[i] = api.Rumor{}
	}
}

// R3: packets that go out with one call share no memory.
func TestPacketsShareNothing(t *testing.T) {
	s := among(t, quiet(), 0, []int{1, 2, 3})
	l := hear(t, s, 1, tell(1, at(0, 4, dead)), ping(3, 1, 0))
	want := read(l)
	for i := range l {
		clear(l[i].Body)
		_ = append(l[i].Body, 91, 92, 93)
		for j := i + 1; j < len(l); j++ {
			if b, err := speech.Pack(want[j].l); err != api.OK || !slices.Equal(b, l[j].Body) {
				t.Fatalf("packet %d has changed with packet %d", j, i)
			}
		}
	}
}

// P14.6: a node that is nil, or that New did not make, does nothing and tells nothing.
func TestP146Nothing(t *testing.T) {
	for _, s := range []*swim.Swim{nil, {}, new(swim.Swim)} {
		for _, self := range []int{0, 1, 7} {
			for _, l := range [][]api.Msg{{ping(1, 2, self)}, {tables(2, at(2, 1, alive))}, {tell(2, at(self, 9, dead))}, {ask(1, 2, 3)}, {ack(0, 2)}, {nack(1, 2)}} {
				if out := s.Receive(to(self, l...).packet(t, 2)); len(out) > 0 {
					t.Errorf("Receive = %v", read(out))
				}
			}
			if out := s.Join(self); len(out) > 0 {
				t.Errorf("Join = %v", read(out))
			}
			if out := s.Receive(api.Packet{To: self}); len(out) > 0 {
				t.Errorf("Receive = %v", read(out))
			}
		}
		for range 10 {
			if out := s.Tick(); len(out) > 0 {
				t.Errorf("Tick = %v", read(out))
			}
		}
		if out := s.Leave(); len(out) > 0 {
			t.Errorf("Leave = %v", read(out))
		}
		for _, n := range ints() {
			if h, is := s.Held(n); h != (swim.Held{}) || is {
				t.Errorf("Held = %+v, %t", h, is)
			}
		}
		if len(s.View()) > 0 || len(s.Live()) > 0 || len(s.Rumors()) > 0 || len(s.Events()) > 0 {
			t.Errorf("%v, %v, %v, %v", s.View(), s.Live(), s.Rumors(), s.Events())
		}
		if s.Self() != (api.Update{}) || s.Counts() != (swim.Counts{}) {
			t.Errorf("%v, %v", s.Self(), s.Counts())
		}
	}
}

// A suspicion waits for Want confirmations, but for no more than the members beside this node and the suspected one.
func TestSuspicionWants(t *testing.T) {
	for want := 0; want <= 8; want++ {
		for members := 2; members <= nodes; members++ {
			c := quiet()
			c.Least, c.Most, c.Want = 100, 9000, want
			s := made(t, c, 0, 1)
			for other := 2; other < members; other++ {
				meet(t, s, 2, at(other, 1, alive))
			}
			meet(t, s, 7, at(1, 1, suspect))
			wanted := doubt.Wait(100, 9000, min(want, members-2), 0)
			if h, is := s.Held(1); h != (swim.Held{Inc: 1, Wait: wanted}) || !is {
				t.Errorf("Want %d, %d members: Held = %+v, %t, want to wait %d", want, members, h, is, wanted)
			}
			if len(s.Live()) != members {
				t.Errorf("%d members: Live = %v", members, s.Live())
			}
		}
	}
}
