package swim_test

import (
	"slices"
	"testing"

	"sodality/api"
	"sodality/swim"
)

// upTo is the nodes from 1 to n.
func upTo(n int) []int {
	var l []int
	for i := range n {
		l = append(l, i+1)
	}
	return l
}

// P14.2: suspicions expire in the order of their nodes, each at its own incarnation, and what is due is accepted.
func TestP142Suspicions(t *testing.T) {
	c := quiet()
	c.Least, c.Most = 3, 3
	s := among(t, c, 0, upTo(6))
	meet(t, s, 5, at(4, 7, suspect), at(2, 1, suspect), at(6, 9, suspect))
	rest(t, s, 2)
	if h, is := s.Held(2); h != (swim.Held{Inc: 1, Elapsed: 2, Wait: 3}) || !is {
		t.Errorf("Held(2) = %+v, %t", h, is)
	}
	rest(t, s, 1)
	want := []api.Update{at(2, 1, dead), at(4, 7, dead), at(6, 9, dead)}
	if got := last(s, 3); !slices.Equal(got, want) {
		t.Errorf("events %v, want %v", got, want)
	}
	slices.Reverse(want)
	if got := rumors(s); !slices.Equal(got, want) {
		t.Errorf("rumors %v, want %v", got, want)
	}
	for _, u := range want {
		if got := stand(s, u.Node); got != u {
			t.Errorf("view %v, want %v", got, u)
		}
		if h, is := s.Held(u.Node); is {
			t.Errorf("Held(%d) = %+v behind its end", u.Node, h)
		}
	}
	rest(t, s, 20)
	if got := len(s.Events()); got != len(upTo(6))+6 {
		t.Errorf("%d events: %v", got, s.Events())
	}
}

// P14.2: each confirmation lets a suspicion expire sooner, to the tick, and one that comes late lets it expire at the next tick.
func TestP142Confirmed(t *testing.T) {
	for confirmed := range 4 {
		for _, early := range []bool{true, false} {
			c := quiet()
			c.Least, c.Most, c.Want = 10, 50, 3
			s := among(t, c, 0, upTo(5))
			meet(t, s, 1, at(5, 1, suspect))
			ticks := 0
			if !early {
				ticks = 49
				rest(t, s, ticks)
			}
			for i := range confirmed {
				meet(t, s, 2+i, at(5, 1, suspect))
			}
			h, _ := s.Held(5)
			for ticks < 50 && stand(s, 5).Status == suspect {
				rest(t, s, 1)
				ticks++
			}
			want := []int{50, 30, 19, 10}[confirmed]
			if h.Have != confirmed || h.Wait != want {
				t.Errorf("%d confirmations: %+v", confirmed, h)
			}
			if !early {
				want = 50
			}
			if ticks != want || stand(s, 5) != at(5, 1, dead) {
				t.Errorf("%d confirmations: %d ticks, want %d: %v", confirmed, ticks, want, stand(s, 5))
			}
		}
	}
}

// P14.2: suspicions come ahead of the wheel: at the tick at which a node is dead it is neither probed nor told anything.
func TestP142SuspicionsFirst(t *testing.T) {
	c := api.Swim{Period: 5, Wait: 1, Indirect: 1, Least: 5, Most: 5, Mult: 8, Piggy: 1, Gossip: 5, Fanout: 4, Sync: 5}
	s := made(t, c, 0, 1)
	meet(t, s, 1, at(1, 1, suspect))
	rest(t, s, 4)
	expect(t, 0, s.Tick(), to(1, tables(0, at(0, 1, alive), at(1, 1, dead)), tell(0, at(1, 1, dead))))

	s = made(t, c, 0, 1)
	meet(t, s, 1, at(1, 1, suspect), at(2, 1, alive))
	rest(t, s, 4)
	expect(t, 0, s.Tick(),
		to(2, ping(1, 0, 2), tell(0, at(1, 1, dead))),
		to(2, tell(0, at(2, 1, alive))),
		to(1, tables(0, at(0, 1, alive), at(1, 1, dead), at(2, 1, alive)), tell(0, at(1, 1, dead))))
}

// P14.2: the expired timers are processed in the order of their numbers, relays behind the others.
func TestP142Order(t *testing.T) {
	c := api.Swim{Period: 9, Wait: 3, Indirect: 1, Least: 50, Most: 50, Mult: 8, Piggy: 1, Gossip: 9, Fanout: 1, Sync: 9}
	s := made(t, c, 0, 1)
	meet(t, s, 1, at(1, 1, alive))
	one := tell(0, at(1, 1, alive))
	rest(t, s, 6)
	expect(t, 0, hear(t, s, 1, ask(31, 1, 5), ask(32, 1, 6)), to(5, ping(1, 0, 5), one), to(6, ping(2, 0, 6), one))
	rest(t, s, 2)
	all := []api.Update{at(0, 1, alive), at(1, 1, alive)}
	expect(t, 0, s.Tick(),
		to(1, ping(3, 0, 1), one), to(1, one), to(1, tables(0, all...), one),
		to(1, nack(31, 0), one), to(1, nack(32, 0), one))
}

// P14.2: timer 1 probes the others in the ring's order, each probe with the next number.
func TestP142Probe(t *testing.T) {
	c := quiet()
	c.Period, c.Wait = 5, 2
	s := among(t, c, 0, upTo(3))
	// Without numbers to draw with, the ring is 3 2 1, then 2 1 3, then 1 3 2.
	for i, node := range []int{3, 2, 1, 2, 1, 3, 1, 3, 2, 3} {
		rest(t, s, 4)
		seq := uint32(i + 1)
		expect(t, 0, s.Tick(), to(node, ping(seq, 0, node)))
		expect(t, 0, hear(t, s, node, ack(seq, node)))
	}
}

// P14.2: the numbers that were given to New draw the places in the ring, whom to ask, and the order of the next round.
func TestP142Draws(t *testing.T) {
	const high = 1<<32 - 1
	c := quiet()
	c.Period, c.Wait, c.Indirect = 5, 2, 1
	// Two numbers lay each node behind the others, three choose whom to ask, and two turn the order round.
	s := among(t, c, 0, upTo(3), high, high, high, 0, high, 0, high)
	rest(t, s, 4)
	for i, x := range []struct{ node, asked int }{{1, 2}, {2, 3}, {3, 1}, {3, 2}, {2, 3}, {1, 3}} {
		seq := uint32(i + 1)
		expect(t, 0, s.Tick(), to(x.node, ping(seq, 0, x.node)))
		rest(t, s, 1)
		expect(t, 0, s.Tick(), to(x.asked, ask(seq, 0, x.node)))
		expect(t, 0, hear(t, s, x.node, ack(seq, x.node)))
		rest(t, s, 2)
	}
}

// P14.2: where nobody is to be probed no number is used up, and the timer goes on.
func TestP142Nobody(t *testing.T) {
	c := quiet()
	c.Period, c.Wait = 5, 2
	s := made(t, c, 0, 1)
	rest(t, s, 12)
	meet(t, s, 1, at(1, 1, alive))
	rest(t, s, 2)
	expect(t, 0, s.Tick(), to(1, ping(1, 0, 1), tell(0, at(1, 1, alive))))
	hear(t, s, 1, ack(1, 1), tell(1, at(1, 1, dead)))
	rest(t, s, 9)
	hear(t, s, 1, tell(1, at(1, 2, suspect)))
	expect(t, 0, s.Tick(), to(1, ping(2, 0, 1), tell(0, at(1, 2, suspect))))
}

// P14.2: a suspected node is probed, a dead one and one that has left are not, and one that is back is again.
func TestP142Living(t *testing.T) {
	c := quiet()
	c.Period, c.Wait, c.Least, c.Most = 3, 1, 1000, 1000
	for _, x := range []struct {
		us   []api.Update
		want []int
	}{
		{nil, []int{1, 2, 3}},
		{[]api.Update{at(2, 1, suspect)}, []int{1, 2, 3}},
		{[]api.Update{at(2, 1, dead)}, []int{1, 3}},
		{[]api.Update{at(2, 1, gone)}, []int{1, 3}},
		{[]api.Update{at(2, 1, dead), at(2, 2, suspect)}, []int{1, 2, 3}},
		{[]api.Update{at(2, 1, gone), at(2, 2, alive)}, []int{1, 2, 3}},
		{[]api.Update{at(4, 1, suspect), at(5, 1, dead), at(6, 1, gone)}, []int{1, 2, 3, 4}},
	} {
		s := among(t, c, 0, upTo(3))
		meet(t, s, 1, x.us...)
		var got []int
		for range 2 * len(x.want) {
			rest(t, s, 2)
			l := read(s.Tick())
			if len(l) != 1 || l[0].l[0].Kind != kPing || l[0].l[0].Target != l[0].to {
				t.Fatalf("behind %v: %v", x.us, l)
			}
			hear(t, s, l[0].to, ack(l[0].l[0].Seq, l[0].to))
			got = append(got, l[0].to)
		}
		if slices.Sort(got); !slices.Equal(slices.Compact(got), x.want) {
			t.Errorf("behind %v %v are probed, want %v", x.us, got, x.want)
		}
	}
}

// P14.2: timer 2 tells Fanout of the others the next rumors, each of them what is due then, and nothing where nothing is left.
func TestP142Gossip(t *testing.T) {
	c := quiet()
	c.Gossip, c.Mult, c.Piggy = 4, 1, 2
	for fanout := 1; fanout <= 4; fanout++ {
		c.Fanout = fanout
		s := among(t, c, 0, upTo(3))
		// Each is passed on three times. The three others in their order, drawn without numbers, are 2 3 1.
		meet(t, s, 1, at(1, 2, alive), at(2, 2, alive), at(3, 2, alive))
		var got []letter
		for range 6 {
			rest(t, s, 3)
			got = append(got, read(s.Tick())...)
		}
		one, two, three := at(1, 2, alive), at(2, 2, alive), at(3, 2, alive)
		l := []api.Msg{tell(0, three, two), tell(0, one, three), tell(0, two, one), tell(0, three, two), tell(0, one)}
		if len(got) != len(l) {
			t.Fatalf("Fanout %d: %v", fanout, got)
		}
		for i, x := range got {
			turn := i % min(fanout, 3)
			want := to([]int{2, 3, 1}[turn], l[i])
			if x.to != want.to || !slices.EqualFunc(x.l, want.l, same) {
				t.Errorf("Fanout %d: packet %d is %v, want %v", fanout, i, x, want)
			}
		}
	}
}

// same asks whether two messages are the same.
func same(a, b api.Msg) bool {
	return a.Kind == b.Kind && a.Seq == b.Seq && a.From == b.From && a.Target == b.Target && a.Reply == b.Reply && slices.Equal(a.Us, b.Us)
}

// P14.2: timer 2 tells suspected nodes as well, and no others that do not live.
func TestP142GossipLiving(t *testing.T) {
	c := quiet()
	c.Gossip, c.Fanout, c.Mult, c.Piggy = 2, 4, 8, 1
	s := among(t, c, 4, []int{0, 1, 2, 3, 5})
	meet(t, s, 0, at(1, 1, dead), at(2, 1, gone), at(3, 1, suspect))
	rest(t, s, 1)
	var got []int
	for _, x := range read(s.Tick()) {
		got = append(got, x.to)
	}
	if slices.Sort(got); !slices.Equal(got, []int{0, 3, 5}) {
		t.Errorf("told %v", got)
	}
}

// P14.2: whom timer 2 tells is drawn each time, whether or not there is anything to tell.
func TestP142GossipDraws(t *testing.T) {
	const high = 1<<32 - 1
	c := quiet()
	c.Gossip, c.Fanout, c.Mult = 2, 1, 1
	s := among(t, c, 0, upTo(3), high, high, 0, 0, high, high, high, 0, 0, high)
	// Two numbers draw an order of the three: 1 2 0, which tells nobody anything, then 0 1 2, 1 0 2, and 2 1 0.
	rest(t, s, 2)
	for _, want := range []int{1, 2, 3} {
		meet(t, s, 1, at(1, s.Events()[len(s.Events())-1].Inc+1, alive))
		rest(t, s, 1)
		got := read(s.Tick())
		if len(got) != 1 || got[0].to != want {
			t.Errorf("told %v, want node %d", got, want)
		}
		drain(t, s, 1)
	}
}

// P14.2: a node that has died is laid into the ring anew when it is back.
func TestP142Back(t *testing.T) {
	c := quiet()
	c.Period, c.Wait = 5, 2
	for _, status := range []int{dead, gone} {
		s := among(t, c, 0, upTo(3))
		rest(t, s, 4)
		expect(t, 0, s.Tick(), to(3, ping(1, 0, 3)))
		hear(t, s, 3, ack(1, 3))
		// Without numbers to draw with, it is laid ahead of the others, and has had its turn by that; the next round is 3 1 2.
		meet(t, s, 1, at(2, 1, status), at(2, 2, alive))
		drain(t, s, 1)
		for i, node := range []int{1, 3, 1, 2} {
			seq := uint32(i + 2)
			rest(t, s, 4)
			expect(t, 0, s.Tick(), to(node, ping(seq, 0, node)))
			hear(t, s, node, ack(seq, node))
		}
	}
}

// P14.2: the first partner is the first node that is known, be it node 0.
func TestP142FirstPartner(t *testing.T) {
	for self := range 4 {
		c := quiet()
		c.Sync = 3
		s := made(t, c, self, 1)
		for node := range 4 {
			if node != self {
				meet(t, s, node, at(node, 1, dead))
			}
		}
		for node := range 4 {
			if node != self {
				rest(t, s, 2)
				if got := read(s.Tick()); len(got) != 1 || got[0].to != node {
					t.Errorf("node %d: %v, want a table to node %d", self, got, node)
				}
			}
		}
	}
}

// P14.2: timer 3 goes round the nodes that are known, dead ones as well, but neither itself nor those that have left.
func TestP142Exchange(t *testing.T) {
	c := quiet()
	c.Sync, c.Least, c.Most = 4, 2000, 2000
	s := among(t, c, 3, []int{1, 2, 4, 5, 6})
	meet(t, s, 1, at(2, 1, dead), at(4, 1, gone), at(5, 1, suspect))
	drain(t, s, 1)
	next := func(want int) {
		t.Helper()
		rest(t, s, 3)
		expect(t, 3, s.Tick(), to(want, tables(3, s.View()...)))
	}
	for _, want := range []int{1, 2, 5, 6, 1, 2, 5} {
		next(want)
	}
	meet(t, s, 1, at(0, 1, alive), at(6, 1, gone))
	drain(t, s, 1)
	for _, want := range []int{0, 1, 2, 5, 0} {
		next(want)
	}
	meet(t, s, 1, at(0, 1, gone), at(1, 1, gone), at(2, 1, gone))
	drain(t, s, 5)
	next(5)
	next(5)
	meet(t, s, 1, at(5, 1, gone))
	rest(t, s, 12)
	meet(t, s, 6, at(6, 2, alive))
	drain(t, s, 6)
	next(6)
}

// P14.2: what rides with a table comes out of the queue.
func TestP142ExchangeRiding(t *testing.T) {
	c := quiet()
	c.Sync, c.Piggy = 2, 1
	s := made(t, c, 0, 9)
	meet(t, s, 2, at(2, 1, alive), at(1, 5, gone))
	rest(t, s, 1)
	all := []api.Update{at(0, 9, alive), at(1, 5, gone), at(2, 1, alive)}
	expect(t, 0, s.Tick(), to(2, tables(0, all...), tell(0, at(1, 5, gone))))
	rest(t, s, 1)
	expect(t, 0, s.Tick(), to(2, tables(0, all...), tell(0, at(2, 1, alive))))
}

// P14.2: behind Wait ticks without an answer Indirect others are asked, by the probe's number.
func TestP142Asks(t *testing.T) {
	for indirect := 0; indirect <= 4; indirect++ {
		for peers := 1; peers <= 6; peers++ {
			c := quiet()
			c.Period, c.Wait, c.Indirect = 9, 4, indirect
			s := among(t, c, 0, upTo(peers))
			rest(t, s, 8)
			// Without numbers to draw with, the node that was met last is probed first, and the others but it are asked from the second one on.
			expect(t, 0, s.Tick(), to(peers, ping(1, 0, peers)))
			rest(t, s, 3)
			others := upTo(peers - 1)
			if len(others) > 1 {
				others = append(others[1:], others[0])
			}
			var want []letter
			for _, node := range others[:min(indirect, len(others))] {
				want = append(want, to(node, ask(1, 0, peers)))
			}
			expect(t, 0, s.Tick(), want...)
			rest(t, s, 3)
			if got := stand(s, peers); got != at(peers, 1, alive) {
				t.Errorf("%d peers, Indirect %d: %v ahead of the end", peers, indirect, got)
			}
			rest(t, s, 1)
			if got := stand(s, peers); got != at(peers, 1, suspect) {
				t.Errorf("%d peers, Indirect %d: %v", peers, indirect, got)
			}
		}
	}
}

// P14.2: the end of a probe suspects its node if it is Alive then, at the incarnation that stands then, and does nothing else.
func TestP142GiveUp(t *testing.T) {
	for _, x := range []struct {
		us   []api.Update
		want api.Update
		new  bool
	}{
		{nil, at(2, 1, suspect), true},
		{[]api.Update{at(2, 5, alive)}, at(2, 5, suspect), true},
		{[]api.Update{at(2, 1, suspect)}, at(2, 1, suspect), false},
		{[]api.Update{at(2, 1, dead)}, at(2, 1, dead), false},
		{[]api.Update{at(2, 1, gone)}, at(2, 1, gone), false},
		{[]api.Update{at(2, 1, dead), at(2, 3, alive)}, at(2, 3, suspect), true},
	} {
		c := quiet()
		c.Period, c.Wait, c.Indirect, c.Least, c.Most = 7, 3, 0, 100, 900
		s := among(t, c, 0, upTo(2))
		rest(t, s, 6)
		expect(t, 0, s.Tick(), to(2, ping(1, 0, 2)))
		rest(t, s, 2)
		meet(t, s, 1, x.us...)
		rest(t, s, 3)
		before := s.Events()
		rest(t, s, 1)
		if got := stand(s, 2); got != x.want {
			t.Errorf("behind %v: %v, want %v", x.us, got, x.want)
		}
		want := before
		if x.new {
			want = append(want, x.want)
			if h, is := s.Held(2); !is || h != (swim.Held{Inc: x.want.Inc, Wait: 900}) {
				t.Errorf("behind %v: Held = %+v, %t", x.us, h, is)
			}
			if l := s.Rumors(); len(l) == 0 || l[0] != (api.Rumor{U: x.want}) {
				t.Errorf("behind %v: Rumors = %v", x.us, l)
			}
		}
		// A suspicion that was there already is not confirmed by it.
		if h, _ := s.Held(2); h.Have > 0 {
			t.Errorf("behind %v: Held = %+v", x.us, h)
		}
		if got := s.Events(); !slices.Equal(got, want) {
			t.Errorf("behind %v: events %v, want %v", x.us, got, want)
		}
	}
}

// P14.2: a node's own suspicion is reported by the node itself: it is not to be confirmed by it, but by each other one.
func TestP142OwnSuspicion(t *testing.T) {
	c := quiet()
	c.Period, c.Wait, c.Indirect, c.Least, c.Most, c.Want = 3, 1, 0, 10, 50, 3
	s := among(t, c, 0, upTo(6))
	rest(t, s, 2)
	expect(t, 0, s.Tick(), to(6, ping(1, 0, 6)))
	rest(t, s, 2)
	if h, is := s.Held(6); h != (swim.Held{Inc: 1, Wait: 50}) || !is {
		t.Fatalf("Held = %+v, %t", h, is)
	}
	meet(t, s, 1, at(6, 1, suspect))
	if h, is := s.Held(6); h != (swim.Held{Inc: 1, Have: 1, Wait: 30}) || !is {
		t.Errorf("Held = %+v, %t", h, is)
	}
	// The node that is suspected is one more that may say so.
	meet(t, s, 6, at(6, 1, suspect))
	if h, is := s.Held(6); h.Have != 2 || !is {
		t.Errorf("Held = %+v, %t", h, is)
	}
}

// P14.2: behind Wait ticks a relay ends with a Nack, and what comes later belongs to it no more.
func TestP142Relay(t *testing.T) {
	c := quiet()
	c.Wait = 3
	s := among(t, c, 4, []int{1, 2})
	expect(t, 4, hear(t, s, 2, ask(77, 2, 6)), to(6, ping(1, 4, 6)))
	rest(t, s, 1)
	expect(t, 4, hear(t, s, 1, ask(77, 1, 2)), to(2, ping(2, 4, 2)))
	rest(t, s, 1)
	expect(t, 4, s.Tick(), to(2, nack(77, 4)))
	expect(t, 4, hear(t, s, 6, ack(1, 6)))
	expect(t, 4, s.Tick(), to(1, nack(77, 4)))
	expect(t, 4, hear(t, s, 2, ack(2, 2)))
	rest(t, s, 20)
}

// P14.2: what is to be passed on rides with each message that a tick sends.
func TestP142Riding(t *testing.T) {
	c := api.Swim{Period: 5, Wait: 2, Indirect: 2, Least: 50, Most: 50, Mult: 8, Piggy: 1, Gossip: 1000, Fanout: 2, Sync: 4000}
	s := made(t, c, 0, 1)
	meet(t, s, 1, at(1, 1, alive), at(2, 1, alive), at(3, 1, alive))
	ride := func(node int) api.Msg { return tell(0, at(node, 1, alive)) }
	rest(t, s, 4)
	expect(t, 0, s.Tick(), to(3, ping(1, 0, 3), ride(3)))
	expect(t, 0, hear(t, s, 1, ask(8, 1, 7)), to(7, ping(2, 0, 7), ride(2)))
	rest(t, s, 1)
	expect(t, 0, s.Tick(), to(2, ask(1, 0, 3), ride(1)), to(1, ask(1, 0, 3), ride(3)), to(1, nack(8, 0), ride(2)))
}
