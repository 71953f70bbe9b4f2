package swim_test

import (
	"math"
	"slices"
	"testing"

	"sodality/api"
	"sodality/swim"
)

// config is any valid configuration in which much happens within few ticks.
func (c *chance) config() api.Swim {
	wait := 1 + c.below(3)
	least := 1 + c.below(8)
	return api.Swim{
		Period: 2*wait + 1 + c.below(5), Wait: wait, Indirect: c.below(5),
		Least: least, Most: least + c.below(20), Want: c.below(9),
		Mult: 1 + c.below(8), Piggy: 1 + c.below(16), Gossip: 1 + c.below(6), Fanout: 1 + c.below(4), Sync: 1 + c.below(12),
	}
}

// updates is any valid updates, few of them, of incarnations that often meet.
func (c *chance) updates() []api.Update {
	var us []api.Update
	for range c.below(4) {
		u := at(c.below(nodes), uint32(c.below(6)), c.below(gone+1))
		if c.below(30) == 0 {
			u.Inc = most - uint32(c.below(2))
		}
		us = append(us, u)
	}
	return us
}

// message is any valid message; its number is often one of the last that the node has used.
func (c *chance) message(used uint32) api.Msg {
	from, target := c.below(nodes), c.below(nodes)
	seq := used - uint32(c.below(4))
	if c.below(20) == 0 {
		seq = uint32(c.below(1<<30) << 2)
	}
	switch c.below(8) {
	case 0:
		return ping(seq, from, target)
	case 1, 2:
		return ack(seq, from)
	case 3, 4:
		return ask(seq, from, target)
	case 5:
		return nack(seq, from)
	case 6:
		return tell(from, c.updates()...)
	}
	return api.Msg{Kind: kTables, From: from, Reply: c.below(2) == 0, Us: c.updates()}
}

// packet is any packet, mostly of valid messages, and mostly to that node.
func (c *chance) packet(t *testing.T, self int, used uint32) api.Packet {
	t.Helper()
	var l []api.Msg
	for range 1 + c.below(3) {
		l = append(l, c.message(used))
	}
	p := to(self, l...).packet(t, l[0].From)
	switch c.below(40) {
	case 0:
		p.To = c.below(10) - 1
	case 1:
		p.Body = p.Body[:c.below(len(p.Body))]
	case 2:
		p.Body[c.below(len(p.Body))] ^= byte(1 << c.below(8))
	}
	return p
}

// answer is an Ack to a Ping that was just sent, or nothing.
func (c *chance) answer(t *testing.T, self int, out []api.Packet) (api.Packet, bool) {
	t.Helper()
	for _, x := range read(out) {
		if m := x.l[0]; m.Kind == kPing && c.below(3) == 0 {
			return to(self, ack(m.Seq, m.Target)).packet(t, m.Target), true
		}
	}
	return api.Packet{}, false
}

// P14.2 to P14.5: through any calls a node does what the chapter's words say.
func TestAnyCalls(t *testing.T) {
	for seed := range 600 {
		c := chance(seed)
		conf := c.config()
		inc := uint32(c.below(4))
		if c.below(10) == 0 {
			inc = most - inc
		}
		p := both(t, conf, c.below(nodes), inc, c.numbers(c.below(200))...)
		if c.below(2) == 0 {
			// Half of the nodes know only what is told of others that live, so that they have more time for probes.
			var us []api.Update
			for other := range c.below(nodes) {
				us = append(us, at(other, 0, alive))
			}
			p.receive(to(p.m.self, tell(1, us...)).packet(t, 1))
		}
		calm := c.below(3)
		for range 150 {
			var out []api.Packet
			switch k := c.below(100); {
			case k < 60+10*calm:
				out = p.tick()
			case k < 98:
				out = p.receive(c.packet(t, p.m.self, p.m.seq))
			case k < 99:
				out = p.join(c.below(10) - 1)
			case c.below(5) == 0:
				out = p.leave()
			}
			if x, is := c.answer(t, p.m.self, out); is {
				p.receive(x)
			}
		}
	}
}

// P14.2 and P14.3: a node among many that live, with much to do, does what the chapter's words say.
func TestBusy(t *testing.T) {
	for seed := range 100 {
		c := chance(seed + 1<<20)
		conf := c.config()
		p := both(t, conf, c.below(nodes), 0, c.numbers(400)...)
		for other := range nodes {
			p.receive(to(p.m.self, tell(other, at(other, 0, alive))).packet(t, other))
		}
		for range 400 {
			out := p.tick()
			for range 3 {
				if x, is := c.answer(t, p.m.self, out); is {
					p.receive(x)
				}
			}
			if c.below(4) == 0 {
				out = p.receive(to(p.m.self, ask(uint32(c.below(5)), c.below(nodes), c.below(nodes))).packet(t, 1))
			}
			if other := c.below(nodes); c.below(12) == 0 {
				p.receive(to(p.m.self, tell(other, at(other, uint32(len(p.m.events)), alive))).packet(t, other))
			}
		}
	}
}

// R4: nodes share nothing: one that does the same as before does so whatever others do between its calls.
func TestNodesShareNothing(t *testing.T) {
	for seed := range 20 {
		c := chance(seed)
		conf, draws := c.config(), c.numbers(50)
		a, b := made(t, conf, 0, 1, draws...), made(t, conf, 0, 1, draws...)
		other := made(t, c.config(), 0, 1, c.numbers(50)...)
		for range 100 {
			x := c.packet(t, 0, uint32(c.below(20)))
			got := slices.Concat(a.Receive(x), a.Tick())
			other.Receive(c.packet(t, 0, 1))
			other.Tick()
			expect(t, 0, slices.Concat(b.Receive(x), b.Tick()), read(got)...)
			if !slices.Equal(a.View(), b.View()) || !slices.Equal(a.Events(), b.Events()) || !slices.Equal(a.Rumors(), b.Rumors()) {
				t.Fatalf("%v, %v", a.View(), b.View())
			}
		}
	}
}

// R1: a node ends each call, whatever bytes it receives.
func TestAnyBytes(t *testing.T) {
	c := chance(5)
	s := among(t, brisk(), 0, upTo(3))
	const wrong = 20000
	for range wrong {
		b := make([]byte, c.below(40))
		for i := range b {
			b[i] = byte(c.below(256))
		}
		s.Receive(api.Packet{From: c.below(9), To: 0, Body: b})
	}
	if got := s.Counts().Wrong; got != wrong {
		t.Errorf("%d of %d packets are wrong", got, wrong)
	}
	for _, n := range []int{math.MinInt, -1, 8, math.MaxInt} {
		expect(t, 0, s.Receive(api.Packet{From: n, To: n, Body: []byte{1}}))
	}
}

// mesh is nodes, the packets between them, and those that were said to be dead by anybody.
type mesh struct {
	t    *testing.T
	c    api.Swim
	all  []*swim.Swim
	air  []api.Packet
	dead map[api.Update]int
}

// meshOf is a mesh in which all nodes have joined node 0.
func meshOf(t *testing.T, c api.Swim, n int, with *chance) *mesh {
	m := &mesh{t: t, c: c, dead: map[api.Update]int{}}
	for self := range n {
		m.all = append(m.all, made(t, c, self, 1, with.numbers(300)...))
		m.air = append(m.air, m.all[self].Join(0)...)
	}
	return m
}

// higher is what chapter 8 says of an update that is above another one.
func higher(a, b api.Update) bool {
	return a.Node == b.Node && (a.Inc > b.Inc || a.Inc == b.Inc && a.Status > b.Status)
}

// watch lets a node do something, and fails where it breaks P14.7.
func (m *mesh) watch(s *swim.Swim, ticks bool, heard []api.Update, do func() []api.Packet) {
	m.t.Helper()
	view, live, events, own := s.View(), s.Live(), len(s.Events()), s.Self()
	var held [nodes]swim.Held
	for node := range nodes {
		held[node], _ = s.Held(node)
	}
	out := do()
	m.air = append(m.air, out...)
	for _, old := range view {
		if now := stand(s, old.Node); now != old && !higher(now, old) {
			m.t.Fatalf("%v has become %v", old, now)
		}
	}
	for _, u := range s.Events()[events:] {
		m.event(own.Node, u, ticks, held[u.Node])
	}
	for node := range nodes {
		h, is := s.Held(node)
		if u := at(node, h.Inc, suspect); is && stand(s, node) != u {
			m.t.Fatalf("%v is held, but %v stands", u, stand(s, node))
		} else if is && !slices.Contains(s.Events(), u) {
			m.t.Fatalf("%v is held, but was never pushed", u)
		}
	}
	for _, u := range heard {
		if higher(u, own) && own.Status != gone {
			m.contradicted(s, u, live, out)
		}
	}
}

// event fails where a node takes another one for dead that nobody has suspected long enough.
func (m *mesh) event(self int, u api.Update, ticks bool, h swim.Held) {
	m.t.Helper()
	if u.Status != dead {
		return
	}
	if ticks && (h.Inc != u.Inc || h.Elapsed+1 < m.c.Least || h.Elapsed+1 < h.Wait) {
		m.t.Fatalf("node %d has let %v be behind the suspicion %+v", self, u, h)
	}
	if !ticks && m.dead[u] == 0 {
		m.t.Fatalf("node %d has heard %v, which nobody has said", self, u)
	}
	m.dead[u]++
}

// contradicted fails where a node has not told at once those who lived before and behind the call that it lives.
func (m *mesh) contradicted(s *swim.Swim, u api.Update, live []int, out []api.Packet) {
	m.t.Helper()
	own := s.Self()
	if own.Status != alive || own.Inc <= u.Inc {
		m.t.Fatalf("%v is not contradicted by %v", u, own)
	}
	for _, node := range s.Live() {
		told := func(x letter) bool {
			return x.to == node && len(x.l) == 1 && same(x.l[0], tell(own.Node, own))
		}
		if node != own.Node && slices.Contains(live, node) && !slices.ContainsFunc(read(out), told) {
			m.t.Fatalf("node %d does not tell node %d that it lives: %v", own.Node, node, read(out))
		}
	}
}

// tick lets a node tick.
func (m *mesh) tick(node int) {
	m.t.Helper()
	m.watch(m.all[node], true, nil, m.all[node].Tick)
}

// deliver lets a packet arrive.
func (m *mesh) deliver(i int) {
	m.t.Helper()
	p := m.air[i]
	m.air = slices.Delete(m.air, i, i+1)
	if p.To >= len(m.all) {
		return
	}
	var heard []api.Update
	for _, x := range read([]api.Packet{p})[0].l {
		heard = append(heard, x.Us...)
	}
	m.watch(m.all[p.To], false, heard, func() []api.Packet { return m.all[p.To].Receive(p) })
}

// settle lets all packets arrive, those that come of them as well.
func (m *mesh) settle() {
	m.t.Helper()
	for n := 0; len(m.air) > 0; n++ {
		if n > 100000 {
			m.t.Fatal("the packets do not end")
		}
		m.deliver(0)
	}
}

// P14.7: in meshes that lose, turn round and double packets, no view falls, nobody is dead ahead of a suspicion's end, and what is said of a node itself it contradicts at once.
func TestP147Mesh(t *testing.T) {
	deaths, refuted := 0, 0
	for seed := range 60 {
		c := chance(seed)
		m := meshOf(t, c.config(), 2+c.below(nodes-1), &c)
		for range 1200 {
			switch k := c.below(10); {
			case k < 5 || len(m.air) == 0:
				m.tick(c.below(len(m.all)))
			case k < 8:
				m.deliver(c.below(len(m.air)))
			case k < 9:
				i := c.below(len(m.air))
				m.air = slices.Delete(m.air, i, i+1)
			default:
				m.air = append(m.air, m.air[c.below(len(m.air))])
			}
			if len(m.air) > 60 {
				m.air = m.air[len(m.air)-40:]
			}
			if c.below(3000) == 0 {
				s := m.all[c.below(len(m.all))]
				m.watch(s, false, nil, s.Leave)
			}
		}
		deaths += len(m.dead)
		for _, s := range m.all {
			refuted += int(s.Self().Inc) - 1
		}
	}
	if deaths == 0 || refuted == 0 {
		t.Errorf("%d deaths, %d refuted: the meshes are too quiet", deaths, refuted)
	}
}

// P14.7: a suspicion lasts for Least ticks at the least, however many confirm it, and is pushed into the queue.
func TestP147Least(t *testing.T) {
	for want := 0; want <= 8; want++ {
		for _, least := range []int{1, 2, 7, 40} {
			c := quiet()
			c.Least, c.Most, c.Want = least, least+9, want
			s := among(t, c, 0, upTo(7))
			meet(t, s, 1, at(7, 1, suspect))
			if l := s.Rumors(); len(l) != 1 || l[0] != (api.Rumor{U: at(7, 1, suspect)}) {
				t.Fatalf("Rumors = %v", l)
			}
			for node := range nodes {
				if node > 0 {
					meet(t, s, node, at(7, 1, suspect))
				}
			}
			rest(t, s, least-1)
			if got := stand(s, 7); got != at(7, 1, suspect) {
				t.Errorf("Least %d, Want %d: %v ahead of its end", least, want, got)
			}
			if rest(t, s, 10); stand(s, 7) != at(7, 1, dead) {
				t.Errorf("Least %d, Want %d: %v", least, want, stand(s, 7))
			}
		}
	}
}

// The document's examples 2 and 3: a node that answers nobody is asked for by others, suspected, and dead; and one that learns that it is suspected, or dead, is alive again.
func TestWholeExamples(t *testing.T) {
	c := chance(1)
	m := meshOf(t, brisk(), 4, &c)
	m.settle()
	for range 60 {
		for node := range 4 {
			m.tick(node)
			m.settle()
		}
	}
	for node, s := range m.all {
		want := []api.Update{at(0, 1, alive), at(1, 1, alive), at(2, 1, alive), at(3, 1, alive)}
		if got := s.View(); !slices.Equal(got, want) {
			t.Fatalf("node %d sees %v", node, got)
		}
	}
	asks, late := 0, []api.Packet{}
	for range 80 {
		for node := range 3 {
			m.tick(node)
			for len(m.air) > 0 {
				if p := m.air[0]; p.To == 3 {
					late = append(late, p)
					m.air = m.air[1:]
					continue
				}
				if x := read(m.air[:1])[0]; x.l[0].Kind == kAsk && x.l[0].Target == 3 {
					asks++
				}
				m.deliver(0)
			}
		}
	}
	for node := range 3 {
		if got := stand(m.all[node], 3); got != at(3, 1, dead) || asks == 0 {
			t.Errorf("node %d sees %v, behind %d asks", node, got, asks)
		}
	}
	m.air = late
	m.settle()
	for range 30 {
		for node := range 4 {
			m.tick(node)
			m.settle()
		}
	}
	for node, s := range m.all {
		if got := stand(s, 3); got.Status != alive || got.Inc < 2 || len(s.Live()) != 4 {
			t.Errorf("node %d sees %v", node, s.View())
		}
	}
}
