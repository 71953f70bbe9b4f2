package swim_test

import (
	"slices"
	"testing"

	"sodality/api"
	"sodality/frame"
	"sodality/swim"
)

// kinds is a message of each kind from a node to another one, each of which that one would heed.
func kinds(from, self int) []api.Msg {
	return []api.Msg{
		ping(4, from, self), ack(1, from), ask(4, from, self), ask(4, from, 7), nack(4, from),
		tell(from, at(7, 9, suspect)), tables(from, at(7, 9, suspect)), reply(from, at(7, 9, suspect)), tell(from, at(self, 9, dead)),
	}
}

// wrongs is bodies that are no packets of messages.
func wrongs(t *testing.T) [][]byte {
	t.Helper()
	b := to(0, ping(4, 1, 0), tell(1, at(7, 9, suspect))).packet(t, 1).Body
	turned := slices.Clone(b)
	turned[3] ^= 1
	l := [][]byte{nil, {}, b[:len(b)-1], append(slices.Clone(b), 0), turned, {1, 0, 0}, make([]byte, 1401)}
	right := api.Frame{Kind: kNack, Body: []byte{1, 5, 1, 1}}
	frames := [][]api.Frame{slices.Repeat([]api.Frame{right}, 33)}
	// Frames that are right, but no messages: of no kind, too short, too long, from no node, and with a wrong update.
	for _, f := range []api.Frame{
		{Kind: 9}, {Kind: kNack}, {Kind: kNack, Body: []byte{1, 5, 1, 1, 0}}, {Kind: kNack, Body: []byte{1, 5, 1, 8}}, {Kind: kTell, Body: []byte{1, 1, 1, 1, 1, 7, 1, 9, 1, 4}},
	} {
		frames = append(frames, []api.Frame{right, f})
	}
	for _, fs := range frames {
		var b []byte
		for _, f := range fs {
			b, _ = frame.Put(b, f)
		}
		l = append(l, b)
	}
	return l
}

// still fails where a node has changed, or has sent anything.
func still(t *testing.T, s *swim.Swim, call string, do func() []api.Packet) {
	t.Helper()
	view, queue, events, counts := s.View(), s.Rumors(), s.Events(), s.Counts()
	if out := do(); len(out) > 0 {
		t.Fatalf("%s has sent %v", call, read(out))
	}
	if !slices.Equal(view, s.View()) || !slices.Equal(queue, s.Rumors()) || !slices.Equal(events, s.Events()) || counts != s.Counts() {
		t.Fatalf("%s: %v, %v, %v, %v, before it %v, %v, %v, %v", call, s.View(), s.Rumors(), s.Events(), s.Counts(), view, queue, events, counts)
	}
}

// P14.3: a packet to another node does nothing, whether or not it is one.
func TestP143Others(t *testing.T) {
	s := among(t, brisk(), 2, []int{1, 3})
	for _, n := range ints() {
		if n == 2 {
			continue
		}
		for _, m := range kinds(1, 2) {
			p := to(n, m).packet(t, 1)
			still(t, s, "Receive for another node", func() []api.Packet { return s.Receive(p) })
		}
		for _, b := range wrongs(t) {
			still(t, s, "Receive for another node", func() []api.Packet { return s.Receive(api.Packet{From: 1, To: n, Body: b}) })
		}
	}
}

// P14.3: bytes that are no packet are counted as Wrong, and nothing else happens, not even by the messages ahead of the error.
func TestP143Wrong(t *testing.T) {
	s := among(t, brisk(), 0, []int{1, 3})
	view, queue, events := s.View(), s.Rumors(), s.Events()
	for i, b := range wrongs(t) {
		for _, from := range []int{1, -1, 0} {
			expect(t, 0, s.Receive(api.Packet{From: from, To: 0, Body: b}))
		}
		if got := s.Counts(); got != (swim.Counts{Wrong: 3 * (i + 1)}) {
			t.Errorf("Counts = %+v behind %d wrong packets", got, 3*(i+1))
		}
	}
	if !slices.Equal(view, s.View()) || !slices.Equal(queue, s.Rumors()) || !slices.Equal(events, s.Events()) {
		t.Errorf("%v, %v, %v", s.View(), s.Rumors(), s.Events())
	}
	for range 3 {
		expect(t, 0, hear(t, s, 1, nack(1, 1)))
	}
	if got := s.Counts(); got.Wrong != 3*len(wrongs(t)) {
		t.Errorf("Counts = %+v: a right packet is no wrong one", got)
	}
}

// P14.3: messages from the node itself are passed over, the others of the packet are not.
func TestP143Itself(t *testing.T) {
	for i := range kinds(2, 2) {
		s := among(t, quiet(), 2, []int{1, 3})
		m := kinds(2, 2)[i]
		still(t, s, "Receive of a message from itself", func() []api.Packet { return hear(t, s, 1, m) })
		still(t, s, "Receive of a message from itself", func() []api.Packet { return hear(t, s, 2, m, m) })
		expect(t, 2, hear(t, s, 1, m, ping(5, 1, 2), m, ping(6, 3, 2)), to(1, ack(5, 2)), to(3, ack(6, 2)))
	}
}

// P14.3: who has sent a message is what the message says.
func TestP143Sender(t *testing.T) {
	for _, from := range []int{-1, 0, 2, 3, 7, 8, 99} {
		s := among(t, quiet(), 0, []int{1, 2, 3, 4})
		p := to(0, ping(5, 1, 0), tables(2)).packet(t, from)
		expect(t, 0, s.Receive(p), to(1, ack(5, 0)), to(2, reply(0, s.View()...)))
		s.Receive(to(0, tell(1, at(4, 1, suspect)), tell(1, at(4, 1, suspect)), tell(2, at(4, 1, suspect))).packet(t, from))
		if h, is := s.Held(4); h.Have != 1 || !is {
			t.Errorf("packet from %d: Held = %+v, %t", from, h, is)
		}
	}
}

// P14.3: a Ping for this node is answered to whoever sends it, with its number; one for another node is not.
func TestP143Ping(t *testing.T) {
	for self := range nodes {
		s := made(t, quiet(), self, 1)
		for from := range nodes {
			for target := range nodes {
				for _, seq := range []uint32{0, 1, 7, 1 << 31, most} {
					var want []letter
					if target == self && from != self {
						want = append(want, to(from, ack(seq, self)))
					}
					expect(t, self, hear(t, s, from, ping(seq, from, target)), want...)
				}
			}
		}
		if l := s.View(); !slices.Equal(l, []api.Update{at(self, 1, alive)}) {
			t.Errorf("a Ping has brought %v", l)
		}
	}
}

// P14.3: messages are processed one behind the other: what a message tells rides with the answers behind it alone.
func TestP143Messages(t *testing.T) {
	s := made(t, quiet(), 0, 1)
	news := tell(0, at(1, 3, alive))
	expect(t, 0, hear(t, s, 1, ping(1, 1, 0), tell(1, at(1, 3, alive)), ping(2, 1, 0), nack(5, 1), tables(1)),
		to(1, ack(1, 0)), to(1, ack(2, 0), news), to(1, reply(0, at(0, 1, alive), at(1, 3, alive)), news))
	if got := s.Counts(); got != (swim.Counts{Nacks: 1}) {
		t.Errorf("Counts = %+v", got)
	}
}

// P14.3: how many updates ride with a message is what Piggy says, the least often passed on first.
func TestP143Piggy(t *testing.T) {
	for _, piggy := range []int{1, 2, 5, 16} {
		c := quiet()
		c.Piggy = piggy
		s := made(t, c, 0, 1)
		var us []api.Update
		for other := 1; other < nodes; other++ {
			meet(t, s, 1, at(other, 1, alive))
			us = append([]api.Update{at(other, 1, alive)}, us...)
		}
		n := min(piggy, len(us))
		expect(t, 0, hear(t, s, 1, ping(1, 1, 0)), to(1, ack(1, 0), tell(0, us[:n]...)))
		expect(t, 0, hear(t, s, 1, ping(2, 1, 0)), to(1, ack(2, 0), tell(0, append(slices.Clone(us[n:]), us...)[:n]...)))
	}
}

// P14.3: how often an update rides depends on how many nodes live, this one and a suspected one as well, but none that has died or left.
func TestP143Limit(t *testing.T) {
	for mult := 1; mult <= 8; mult++ {
		for members := 2; members <= nodes; members++ {
			c := quiet()
			c.Mult, c.Piggy = mult, 16
			s := made(t, c, 0, 1)
			for other := 1; other < nodes; other++ {
				status := []int{suspect, alive}[other%2]
				if other >= members {
					status = []int{dead, gone}[other%2]
				}
				meet(t, s, 1, at(other, 1, status))
			}
			rides := 0
			for len(hearRead(t, s, ping(1, 1, 0))[0].l) > 1 {
				rides++
			}
			digits := map[int]int{2: 2, 3: 2, 4: 3, 5: 3, 6: 3, 7: 3, 8: 4}[members]
			if rides != mult*digits {
				t.Errorf("Mult %d, %d members: %d rides, want %d", mult, members, rides, mult*digits)
			}
		}
	}
}

// hearRead is what a node sends upon a message from node 1.
func hearRead(t *testing.T, s *swim.Swim, m api.Msg) []letter {
	t.Helper()
	return read(hear(t, s, 1, m))
}

// probing is a node 0 among three others that has just probed node 3, with number 1.
func probing(t *testing.T) *swim.Swim {
	t.Helper()
	c := quiet()
	c.Period, c.Wait, c.Indirect = 20, 4, 1
	s := among(t, c, 0, upTo(3))
	rest(t, s, 19)
	expect(t, 0, s.Tick(), to(3, ping(1, 0, 3)))
	return s
}

// suspects asks whether a node suspects node 3 at the end of the probe, and whether it has asked others.
func suspects(t *testing.T, s *swim.Swim, ticks int) (asked, suspected bool) {
	t.Helper()
	for range ticks {
		for _, x := range read(s.Tick()) {
			asked = asked || x.l[0].Kind == kAsk
		}
	}
	return asked, stand(s, 3).Status == suspect
}

// P14.3: an Ack of the probed node with the probe's number ends the probe, at any time of it.
func TestP143Ack(t *testing.T) {
	for behind := range 9 {
		s := probing(t)
		asked, _ := suspects(t, s, behind)
		expect(t, 0, hear(t, s, 3, ack(1, 3)))
		later, suspected := suspects(t, s, 18-behind)
		if asked != (behind >= 4) || later || suspected != (behind >= 8) {
			t.Errorf("Ack behind %d ticks: asked %t, later %t, suspected %t", behind, asked, later, suspected)
		}
	}
}

// P14.3: an Ack with another number, or from another node, does not end the probe, nor does any other message.
func TestP143NoAck(t *testing.T) {
	for _, m := range []api.Msg{ack(0, 3), ack(2, 3), ack(1, 2), ack(1, 1), ack(1, 0), ack(1|1<<31, 3), nack(1, 3), ping(1, 3, 0), ask(1, 3, 0), tell(3, at(3, 2, alive)), reply(3, at(3, 2, alive))} {
		s := probing(t)
		hear(t, s, 3, m)
		rest(t, s, 3)
		if asked, _ := suspects(t, s, 1); !asked {
			t.Errorf("%v: nobody is asked", m)
		}
		hear(t, s, 3, m)
		if _, suspected := suspects(t, s, 4); !suspected {
			t.Errorf("%v: %v", m, stand(s, 3))
		}
	}
}

// P14.3: an Ack that comes by another node ends the probe too.
func TestP143RelayedAck(t *testing.T) {
	s := probing(t)
	suspects(t, s, 6)
	expect(t, 0, s.Receive(to(0, ack(1, 3), tell(1, at(1, 2, alive))).packet(t, 1)))
	if _, suspected := suspects(t, s, 13); suspected {
		t.Errorf("View = %v", s.View())
	}
	if got := stand(s, 1); got != at(1, 2, alive) {
		t.Errorf("%v", got)
	}
}

// P14.3: an Ack of the last probe does nothing for the next one.
func TestP143LateAck(t *testing.T) {
	s := probing(t)
	expect(t, 0, hear(t, s, 3, ack(1, 3)))
	rest(t, s, 19)
	expect(t, 0, s.Tick(), to(2, ping(2, 0, 2)))
	for _, m := range []api.Msg{ack(1, 3), ack(1, 2), ack(2, 3)} {
		expect(t, 0, hear(t, s, m.From, m))
	}
	rest(t, s, 3)
	expect(t, 0, s.Tick(), to(3, ask(2, 0, 2)))
	rest(t, s, 4)
	if got := stand(s, 2); got != at(2, 1, suspect) {
		t.Errorf("%v", got)
	}
}

// P14.3: where no probe is current, no Ack means one, not even one of number 0 from node 0.
func TestP143NoProbe(t *testing.T) {
	for _, from := range []int{0, 2} {
		s := among(t, quiet(), 1, []int{0, 2})
		for _, seq := range []uint32{0, 1, 2, most} {
			still(t, s, "Receive of an Ack", func() []api.Packet { return hear(t, s, from, ack(seq, from)) })
		}
	}
}

// P14.3: an Ask for this node is a Ping.
func TestP143AskItself(t *testing.T) {
	s := made(t, quiet(), 6, 1)
	for range 20 {
		expect(t, 6, hear(t, s, 2, ask(9, 2, 6)), to(2, ack(9, 6)))
	}
	expect(t, 6, hear(t, s, 2, ask(9, 2, 5)), to(5, ping(1, 6, 5)))
}

// P14.3: a relay pings its target with a number of its own; its Ack, and no other one, goes to the node that has asked, as the target's, with the number of the request.
func TestP143Relay(t *testing.T) {
	s := made(t, quiet(), 4, 1)
	expect(t, 4, hear(t, s, 2, ask(1<<31, 2, 6)), to(6, ping(1, 4, 6)))
	expect(t, 4, hear(t, s, 3, ask(0, 3, 5)), to(5, ping(2, 4, 5)))
	expect(t, 4, hear(t, s, 3, ask(0, 3, 3)), to(3, ping(3, 4, 3)))
	for _, m := range []api.Msg{ack(2, 6), ack(1, 5), ack(1<<31, 6), ack(0, 5), ack(1, 2), ack(4, 6), nack(1, 6), ack(0, 0)} {
		expect(t, 4, hear(t, s, m.From, m))
	}
	expect(t, 4, hear(t, s, 6, ack(1, 6)), to(2, ack(1<<31, 6)))
	expect(t, 4, hear(t, s, 6, ack(1, 6)))
	expect(t, 4, hear(t, s, 5, ack(2, 5)), to(3, ack(0, 5)))
	expect(t, 4, hear(t, s, 5, ack(2, 5)))
	// What is still relayed ends behind Wait ticks, and nothing else does: the timers of the others were stopped.
	for tick := 1; tick < 1000; tick++ {
		expect(t, 4, s.Tick())
	}
	expect(t, 4, s.Tick(), to(3, nack(0, 4)))
	rest(t, s, 100)
}

// P14.3: what is to be passed on rides with a relay's Ping and its Ack, in this node's own name.
func TestP143RelayRiding(t *testing.T) {
	c := quiet()
	c.Piggy = 1
	s := made(t, c, 4, 1)
	meet(t, s, 2, at(2, 5, alive), at(3, 5, alive))
	expect(t, 4, hear(t, s, 2, ask(9, 2, 6)), to(6, ping(1, 4, 6), tell(4, at(3, 5, alive))))
	expect(t, 4, hear(t, s, 6, ack(1, 6)), to(2, ack(9, 6), tell(4, at(2, 5, alive))))
}

// P14.3: eight requests are relayed at a time; a ninth does nothing, and the first slot that is freed takes the next one.
func TestP143Slots(t *testing.T) {
	c := quiet()
	c.Wait = 5
	s := made(t, c, 0, 1)
	for i := range slots {
		expect(t, 0, hear(t, s, 1, ask(uint32(50+i), 1, 2)), to(2, ping(uint32(i+1), 0, 2)))
	}
	still(t, s, "a ninth Ask", func() []api.Packet { return hear(t, s, 1, ask(60, 1, 2)) })
	expect(t, 0, hear(t, s, 1, ask(61, 1, 0)), to(1, ack(61, 0)))
	// Slots 5 and 2 are freed; slot 2 is taken first, then slot 5; the Nacks go in the order of the slots.
	expect(t, 0, hear(t, s, 2, ack(6, 2)), to(1, ack(55, 2)))
	expect(t, 0, hear(t, s, 2, ack(3, 2)), to(1, ack(52, 2)))
	expect(t, 0, hear(t, s, 3, ask(70, 3, 4)), to(4, ping(9, 0, 4)))
	expect(t, 0, hear(t, s, 4, ask(71, 4, 5)), to(5, ping(10, 0, 5)))
	still(t, s, "a ninth Ask", func() []api.Packet { return hear(t, s, 1, ask(62, 1, 2)) })
	rest(t, s, 4)
	expect(t, 0, s.Tick(), to(1, nack(50, 0)), to(1, nack(51, 0)), to(3, nack(70, 0)), to(1, nack(53, 0)),
		to(1, nack(54, 0)), to(4, nack(71, 0)), to(1, nack(56, 0)), to(1, nack(57, 0)))
	expect(t, 0, hear(t, s, 1, ask(80, 1, 2)), to(2, ping(11, 0, 2)))
	rest(t, s, 4)
	expect(t, 0, s.Tick(), to(1, nack(80, 0)))
}

// P14.3: a slot that is taken again waits for Wait ticks from then on.
func TestP143SlotAgain(t *testing.T) {
	c := quiet()
	c.Wait = 5
	s := made(t, c, 0, 1)
	hear(t, s, 1, ask(50, 1, 2))
	rest(t, s, 3)
	expect(t, 0, hear(t, s, 2, ack(1, 2)), to(1, ack(50, 2)))
	expect(t, 0, hear(t, s, 1, ask(51, 1, 3)), to(3, ping(2, 0, 3)))
	rest(t, s, 4)
	expect(t, 0, s.Tick(), to(1, nack(51, 0)))
}

// P14.3: probes and relays have one row of numbers, and do not take each other's Acks.
func TestP143Numbers(t *testing.T) {
	c := quiet()
	c.Period, c.Wait = 5, 2
	s := among(t, c, 0, []int{1})
	expect(t, 0, hear(t, s, 1, ask(7, 1, 1)), to(1, ping(1, 0, 1)))
	rest(t, s, 1)
	expect(t, 0, s.Tick(), to(1, nack(7, 0)))
	rest(t, s, 2)
	expect(t, 0, s.Tick(), to(1, ping(2, 0, 1)))
	expect(t, 0, hear(t, s, 3, ask(8, 3, 1)), to(1, ping(3, 0, 1)))
	expect(t, 0, hear(t, s, 1, ack(3, 1)), to(3, ack(8, 1)))
	expect(t, 0, hear(t, s, 1, ack(2, 1)))
	rest(t, s, 4)
	expect(t, 0, s.Tick(), to(1, ping(4, 0, 1)))
}

// P14.3: a Nack is counted, and ends nothing.
func TestP143Nack(t *testing.T) {
	s := made(t, quiet(), 0, 1)
	for n := 1; n < 5; n++ {
		expect(t, 0, hear(t, s, n, nack(uint32(n), n), nack(0, n)))
		if got := s.Counts(); got != (swim.Counts{Nacks: 2 * n}) {
			t.Errorf("Counts = %+v", got)
		}
	}
}

// P14.3: tables are accepted; they are answered with the whole roll as it is then, unless they are an answer.
func TestP143Tables(t *testing.T) {
	s := made(t, quiet(), 3, 6)
	us := []api.Update{at(1, 2, alive), at(5, 0, dead), at(6, 4, gone)}
	all := []api.Update{us[0], at(3, 6, alive), us[1], us[2]}
	expect(t, 3, hear(t, s, 5, reply(5, us...)))
	if got := s.View(); !slices.Equal(got, all) {
		t.Errorf("View = %v", got)
	}
	expect(t, 3, hear(t, s, 7, reply(7)))
	s = made(t, quiet(), 3, 6)
	expect(t, 3, hear(t, s, 5, tables(5, us...)), to(5, reply(3, all...), tell(3, us[2], us[1], us[0])))
	drain(t, s, 1)
	expect(t, 3, hear(t, s, 7, tables(7)), to(7, reply(3, all...)))
	// What the table says of this node is contradicted ahead of the answer.
	own := at(3, 10, alive)
	all[1] = own
	expect(t, 3, hear(t, s, 5, tables(5, at(1, 3, dead), at(3, 9, gone), at(2, 1, alive))),
		to(5, reply(3, at(1, 3, dead), at(2, 1, alive), own, us[1], us[2]), tell(3, at(2, 1, alive), own, at(1, 3, dead))))
}

// P14.3: an update that is not above what stands does nothing, and one that is becomes a rumor, an event, and what stands.
func TestP143Accept(t *testing.T) {
	for old := range 12 {
		for now := range 12 {
			s := made(t, quiet(), 0, 1)
			before, u := at(2, uint32(old/4), old%4), at(2, uint32(now/4), now%4)
			meet(t, s, 1, before)
			if now <= old && !(now == old && u.Status == suspect) {
				still(t, s, "Receive of what is not above", func() []api.Packet { return hear(t, s, 1, tell(1, u)) })
				continue
			}
			meet(t, s, 1, u)
			want := []api.Update{before}
			if now > old {
				want = append(want, u)
			}
			if got := s.Events(); !slices.Equal(got, want) {
				t.Errorf("%v upon %v: events %v", u, before, got)
			}
			if got := s.Rumors(); !slices.Equal(got, []api.Rumor{{U: u}}) || stand(s, 2) != u {
				t.Errorf("%v upon %v: %v, %v", u, before, got, s.View())
			}
			if h, is := s.Held(2); is != (u.Status == suspect) || h.Inc != u.Inc && is {
				t.Errorf("%v upon %v: Held = %+v, %t", u, before, h, is)
			}
		}
	}
}

// P14.3: only just the same suspicion is confirmed, once by each node; one of a greater incarnation begins anew.
func TestP143Confirm(t *testing.T) {
	c := quiet()
	c.Least, c.Most, c.Want = 10, 50, 3
	s := among(t, c, 0, upTo(6))
	meet(t, s, 1, at(6, 4, suspect))
	rest(t, s, 2)
	events, queue := len(s.Events()), s.Rumors()
	for _, x := range []struct {
		from int
		u    api.Update
		have int
	}{
		{1, at(6, 4, suspect), 0}, {2, at(6, 3, suspect), 0}, {2, at(6, 4, alive), 0}, {2, at(5, 1, alive), 0},
		{2, at(6, 4, suspect), 1}, {2, at(6, 4, suspect), 1}, {7, at(6, 4, suspect), 2}, {6, at(6, 4, suspect), 3}, {3, at(6, 4, suspect), 3},
	} {
		meet(t, s, x.from, x.u)
		wait := []int{50, 30, 19, 10}[x.have]
		if h, _ := s.Held(6); h != (swim.Held{Inc: 4, Have: x.have, Elapsed: 2, Wait: wait}) {
			t.Errorf("%v from %d: Held = %+v", x.u, x.from, h)
		}
	}
	if !slices.Equal(s.Rumors(), queue) || len(s.Events()) != events {
		t.Errorf("confirmed: %v, %v", s.Rumors(), s.Events())
	}
	meet(t, s, 2, at(6, 5, suspect))
	if h, is := s.Held(6); h != (swim.Held{Inc: 5, Wait: 50}) || !is {
		t.Errorf("Held = %+v, %t", h, is)
	}
	meet(t, s, 2, at(6, 5, suspect))
	meet(t, s, 1, at(6, 5, suspect))
	if h, _ := s.Held(6); h.Have != 1 {
		t.Errorf("Held = %+v", h)
	}
}

// P14.3: what is above a suspicion ends it, whatever it is, and the node is not dead by it any more.
func TestP143End(t *testing.T) {
	for _, u := range []api.Update{at(6, 4, dead), at(6, 4, gone), at(6, 5, alive), at(6, 5, gone), at(6, 9, dead)} {
		s := among(t, quiet(), 0, upTo(6))
		meet(t, s, 1, at(6, 4, suspect))
		rest(t, s, 1)
		meet(t, s, 2, u)
		if h, is := s.Held(6); is {
			t.Errorf("Held = %+v behind %v", h, u)
		}
		rest(t, s, 60)
		if got := stand(s, 6); got != u {
			t.Errorf("%v behind %v", got, u)
		}
	}
}

// P14.3: what is wrongly said of this node is contradicted: the new update is a rumor, an event, and goes at once to all that live, rising, and alone.
func TestP143Mine(t *testing.T) {
	for _, x := range []struct {
		u   api.Update
		inc uint32
	}{
		{at(3, 6, alive), 0}, {at(3, 5, gone), 0}, {at(3, 6, suspect), 7}, {at(3, 6, dead), 7}, {at(3, 6, gone), 7},
		{at(3, 7, alive), 8}, {at(3, 90, suspect), 91}, {at(3, most-1, dead), most},
	} {
		s := made(t, quiet(), 3, 6)
		meet(t, s, 1, at(5, 1, suspect), at(4, 1, dead), at(1, 1, alive), at(0, 1, alive), at(6, 1, gone))
		if x.inc == 0 {
			still(t, s, "Receive of what is not above", func() []api.Packet { return hear(t, s, 1, tell(1, x.u)) })
			continue
		}
		now := at(3, x.inc, alive)
		word := tell(3, now)
		expect(t, 3, hear(t, s, 2, tell(2, x.u)), to(0, word), to(1, word), to(5, word))
		if s.Self() != now || !slices.Equal(last(s, 1), []api.Update{now}) || s.Counts() != (swim.Counts{}) {
			t.Errorf("behind %v: %v, %v, %v", x.u, s.Self(), s.Events(), s.Counts())
		}
		if l := s.Rumors(); len(l) != 6 || l[0] != (api.Rumor{U: now}) {
			t.Errorf("behind %v: Rumors = %v", x.u, l)
		}
		if h, is := s.Held(3); is {
			t.Errorf("behind %v: Held = %+v", x.u, h)
		}
	}
}

// P14.3: where nobody else lives nobody is told, but it stands all the same.
func TestP143MineAlone(t *testing.T) {
	s := made(t, quiet(), 3, 6)
	expect(t, 3, hear(t, s, 2, tell(2, at(3, 6, dead))))
	if !slices.Equal(s.Events(), []api.Update{at(3, 7, alive)}) || !slices.Equal(rumors(s), []api.Update{at(3, 7, alive)}) {
		t.Errorf("%v, %v", s.Events(), s.Rumors())
	}
	expect(t, 3, hear(t, s, 2, tables(2, at(2, 1, alive), at(3, 7, gone))),
		to(2, tell(3, at(3, 8, alive))), to(2, reply(3, at(2, 1, alive), at(3, 8, alive)), tell(3, at(3, 8, alive), at(2, 1, alive))))
}

// P14.3: a node whose incarnation can't rise is marked as stuck, for good, and nothing else happens.
func TestP143Stuck(t *testing.T) {
	for _, own := range []uint32{6, most - 1, most} {
		s := made(t, quiet(), 3, own)
		meet(t, s, 1, at(1, 1, alive))
		view, queue, events := s.View(), s.Rumors(), s.Events()
		if s.Counts().Stuck {
			t.Errorf("stuck from the start")
		}
		expect(t, 3, hear(t, s, 1, tell(1, at(3, most, suspect))))
		if got := s.Counts(); got != (swim.Counts{Stuck: true}) {
			t.Errorf("Counts = %+v", got)
		}
		if !slices.Equal(s.View(), view) || !slices.Equal(s.Rumors(), queue) || !slices.Equal(s.Events(), events) {
			t.Errorf("%v, %v, %v", s.View(), s.Rumors(), s.Events())
		}
		if own == 6 {
			expect(t, 3, hear(t, s, 1, tell(1, at(3, 9, suspect))), to(1, tell(3, at(3, 10, alive))))
			if !s.Counts().Stuck {
				t.Error("it is marked no more")
			}
		}
	}
}

// P14.4: Join sends the whole roll, with what rides, to any other node, known or not.
func TestP144Join(t *testing.T) {
	s := made(t, quiet(), 3, 6)
	for _, n := range ints() {
		var want []letter
		if n >= 0 && n < nodes && n != 3 {
			want = append(want, to(n, tables(3, at(3, 6, alive))))
		}
		expect(t, 3, s.Join(n), want...)
	}
	meet(t, s, 1, at(1, 2, dead), at(5, 2, gone))
	all := []api.Update{at(1, 2, dead), at(3, 6, alive), at(5, 2, gone)}
	expect(t, 3, s.Join(1), to(1, tables(3, all...), tell(3, at(5, 2, gone), at(1, 2, dead))))
	still(t, s, "Join of itself", func() []api.Packet { return s.Join(3) })
	still(t, s, "Join of no node", func() []api.Packet { return s.Join(8) })
}

// P14.4: Leave tells all that live, rising, that this node is gone, at its incarnation, and alone.
func TestP144Leave(t *testing.T) {
	s := made(t, quiet(), 3, 6)
	meet(t, s, 1, at(7, 1, alive), at(5, 1, suspect), at(4, 1, dead), at(0, 1, alive), at(6, 1, gone))
	queue, events := s.Rumors(), s.Events()
	word := tell(3, at(3, 6, gone))
	expect(t, 3, s.Leave(), to(0, word), to(5, word), to(7, word))
	if s.Self() != at(3, 6, gone) || stand(s, 3) != at(3, 6, gone) || !slices.Equal(s.Live(), []int{0, 5, 7}) {
		t.Errorf("%v, %v, %v", s.Self(), s.View(), s.Live())
	}
	if !slices.Equal(s.Rumors(), queue) || !slices.Equal(s.Events(), events) {
		t.Errorf("Rumors = %v, Events = %v", s.Rumors(), s.Events())
	}
	s = made(t, quiet(), 3, most)
	expect(t, 3, s.Leave())
	if s.Self() != at(3, most, gone) || len(s.Live()) > 0 {
		t.Errorf("%v, %v", s.Self(), s.Live())
	}
}

// P14.4: behind Leave nothing is done any more: no probe, relay or suspicion goes on, and nothing is counted.
func TestP144Left(t *testing.T) {
	c := brisk()
	c.Least, c.Most = 6, 6
	s := made(t, c, 3, 6)
	meet(t, s, 1, at(1, 1, alive), at(5, 1, suspect))
	hear(t, s, 1, ask(4, 1, 6))
	for range 5 {
		s.Tick()
	}
	s.Leave()
	h, is := s.Held(5)
	for n := range nodes {
		still(t, s, "Join behind Leave", func() []api.Packet { return s.Join(n) })
	}
	for range 50 {
		still(t, s, "Tick behind Leave", s.Tick)
		still(t, s, "Leave behind Leave", s.Leave)
	}
	for _, m := range append(kinds(1, 3), ack(1, 6), ack(2, 1), ack(2, 5), tell(1, at(3, most, dead), at(3, 9, suspect))) {
		still(t, s, "Receive behind Leave", func() []api.Packet { return hear(t, s, 1, m) })
	}
	for _, b := range wrongs(t) {
		still(t, s, "Receive behind Leave", func() []api.Packet { return s.Receive(api.Packet{From: 1, To: 3, Body: b}) })
	}
	if now, there := s.Held(5); now != h || there != is || !is {
		t.Errorf("Held = %+v, %t, at Leave %+v, %t", now, there, h, is)
	}
}
