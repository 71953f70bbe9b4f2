package swim_test

import (
	"slices"
	"testing"

	"sodality/api"
	"sodality/doubt"
	"sodality/draw"
	"sodality/probe"
	"sodality/roll"
	"sodality/rumor"
	"sodality/speech"
	"sodality/swim"
)

// The numbers of the chapter and of the words it leans on: how many nodes there may be, the statuses, the kinds of messages, the greatest incarnation and the longest wait, how many relays there may be, and the error of a wrong argument.
const (
	nodes   = 8
	alive   = 0
	suspect = 1
	dead    = 2
	gone    = 3
	kPing   = 1
	kAck    = 2
	kAsk    = 3
	kNack   = 4
	kTell   = 5
	kTables = 6
	most    = 1<<32 - 1
	longest = 1 << 18
	slots   = 8
	errArg  = 2
)

// at is an update.
func at(node int, inc uint32, status int) api.Update {
	return api.Update{Node: node, Inc: inc, Status: status}
}

// ping is a Ping.
func ping(seq uint32, from, target int) api.Msg {
	return api.Msg{Kind: kPing, Seq: seq, From: from, Target: target}
}

// ack is an Ack.
func ack(seq uint32, from int) api.Msg {
	return api.Msg{Kind: kAck, Seq: seq, From: from}
}

// ask is an Ask.
func ask(seq uint32, from, target int) api.Msg {
	return api.Msg{Kind: kAsk, Seq: seq, From: from, Target: target}
}

// nack is a Nack.
func nack(seq uint32, from int) api.Msg {
	return api.Msg{Kind: kNack, Seq: seq, From: from}
}

// tell is a Tell.
func tell(from int, us ...api.Update) api.Msg {
	return api.Msg{Kind: kTell, From: from, Us: us}
}

// tables is a table that asks for one.
func tables(from int, us ...api.Update) api.Msg {
	return api.Msg{Kind: kTables, From: from, Us: us}
}

// reply is a table that answers one.
func reply(from int, us ...api.Update) api.Msg {
	return api.Msg{Kind: kTables, From: from, Reply: true, Us: us}
}

// letter is a packet as it is meant: to whom it goes, and its messages.
type letter struct {
	to int
	l  []api.Msg
}

// to is a letter.
func to(node int, l ...api.Msg) letter {
	return letter{node, l}
}

// packet is a letter as a packet.
func (x letter) packet(t *testing.T, from int) api.Packet {
	t.Helper()
	b, err := speech.Pack(x.l)
	if err != api.OK {
		t.Fatalf("Pack(%v): error %d", x.l, err)
	}
	return api.Packet{From: from, To: x.to, Body: b}
}

// samePacket asks whether two packets have the same in all their fields.
func samePacket(a, b api.Packet) bool {
	return a.From == b.From && a.To == b.To && slices.Equal(a.Body, b.Body)
}

// read is packets as words for a failure.
func read(l []api.Packet) []letter {
	var out []letter
	for _, p := range l {
		ms, _ := speech.Unpack(p.Body)
		out = append(out, letter{p.To, ms})
	}
	return out
}

// expect fails where a node's packets are not just those letters.
func expect(t *testing.T, from int, got []api.Packet, want ...letter) {
	t.Helper()
	var l []api.Packet
	for _, x := range want {
		l = append(l, x.packet(t, from))
	}
	if !slices.EqualFunc(got, l, samePacket) {
		t.Fatalf("node %d sent %v, want %v", from, read(got), want)
	}
}

// inquiry is a probe or a relay by the words of the chapter: its number, the node that is asked, and for a relay the request's number and the node that has made it.
type inquiry struct {
	there  bool
	seq    uint32
	node   int
	asked  uint32
	client int
}

// doubted is a suspicion by the words of the chapter.
type doubted struct {
	inc uint32
	d   *doubt.Doubt
}

// told is a node by the words of the chapter: what it has, the ticks until each timer expires, and what it has sent in a call.
type told struct {
	c       api.Swim
	self    int
	r       *roll.Roll
	q       *rumor.Queue
	ring    *probe.Ring
	d       *draw.Draws
	timers  [64]int
	doubts  [nodes]*doubted
	current inquiry
	relays  [slots]inquiry
	seq     uint32
	partner int
	left    bool
	events  []api.Update
	counts  swim.Counts
	out     []letter
}

// telling is what P14.1 says of a new node.
func telling(c api.Swim, self int, inc uint32, draws []uint32) *told {
	r, _ := roll.New(self, inc)
	m := &told{c: c, self: self, r: r, q: rumor.New(c.Mult), ring: probe.New(), d: draw.New(draws), partner: -1}
	m.timers[1], m.timers[2], m.timers[3] = c.Period, c.Gossip, c.Sync
	return m
}

// members is the number of nodes that live.
func (m *told) members() int {
	return len(m.r.Live())
}

// send is what the chapter says of sending.
func (m *told) send(node int, l ...api.Msg) {
	if us := m.q.Take(m.c.Piggy, m.members()); len(us) > 0 {
		l = append(l, tell(m.self, us...))
	}
	if len(l) > 0 {
		m.out = append(m.out, to(node, l...))
	}
}

// broadcast is what the chapter says of broadcasting.
func (m *told) broadcast(u api.Update) {
	for _, node := range m.r.Peers() {
		m.out = append(m.out, to(node, tell(m.self, u)))
	}
}

// accept is what the chapter says of accepting.
func (m *told) accept(u api.Update, from int) {
	stands, _ := m.r.Get(u.Node)
	if u.Status == suspect && stands == u && m.doubts[u.Node] != nil {
		m.doubts[u.Node].d.Confirm(from)
		return
	}
	change := m.r.Apply(u)
	switch change.Kind {
	case roll.Fresh, roll.Raised:
		m.q.Push(u)
		m.events = append(m.events, u)
		m.doubts[u.Node] = nil
		if u.Status == suspect {
			d, _ := doubt.New(m.c.Least, m.c.Most, max(0, min(m.c.Want, m.members()-2)), from)
			m.doubts[u.Node] = &doubted{u.Inc, d}
		}
		if u.Status == alive || u.Status == suspect {
			m.ring.Add(u.Node, m.d)
		} else {
			m.ring.Remove(u.Node)
		}
	case roll.Mine:
		m.q.Push(change.New)
		m.events = append(m.events, change.New)
		m.broadcast(change.New)
	case roll.Stuck:
		m.counts.Stuck = true
	}
}

// tick is what P14.2 says of Tick.
func (m *told) tick() {
	if m.left {
		return
	}
	for node, x := range m.doubts {
		if x != nil && x.d.Tick() {
			m.accept(at(node, x.inc, dead), m.self)
		}
	}
	var due []int
	for i := range m.timers {
		if m.timers[i] > 0 {
			m.timers[i]--
			if m.timers[i] == 0 {
				due = append(due, i)
			}
		}
	}
	for _, i := range due {
		m.expire(i)
	}
}

// expire is what P14.2 says of the timers.
func (m *told) expire(i int) {
	switch i {
	case 1:
		m.timers[1] = m.c.Period
		if node, is := m.ring.Next(m.r.Peers(), m.d); is {
			m.seq++
			m.current = inquiry{there: true, seq: m.seq, node: node}
			m.timers[4] = m.c.Wait
			m.send(node, ping(m.seq, m.self, node))
		}
	case 2:
		m.timers[2] = m.c.Gossip
		for _, node := range m.ring.Others(m.r.Peers(), -1, m.c.Fanout, m.d) {
			m.send(node)
		}
	case 3:
		m.timers[3] = m.c.Sync
		m.pair()
	case 4:
		if m.current.there {
			for _, node := range m.ring.Others(m.r.Peers(), m.current.node, m.c.Indirect, m.d) {
				m.send(node, ask(m.current.seq, m.self, m.current.node))
			}
			m.timers[5] = m.c.Wait
		}
	case 5:
		if m.current.there {
			m.current.there = false
			if u, _ := m.r.Get(m.current.node); u.Status == alive {
				m.accept(at(u.Node, u.Inc, suspect), m.self)
			}
		}
	default:
		x := &m.relays[i-16]
		x.there = false
		m.send(x.client, nack(x.asked, m.self))
	}
}

// pair is what P14.2 says of timer 3.
func (m *told) pair() {
	first, next := -1, -1
	for _, u := range m.r.List() {
		if u.Status == gone || u.Node == m.self {
			continue
		}
		if first < 0 {
			first = u.Node
		}
		if next < 0 && u.Node > m.partner {
			next = u.Node
		}
	}
	if next < 0 {
		next = first
	}
	if next >= 0 {
		m.partner = next
		m.send(next, tables(m.self, m.r.List()...))
	}
}

// receive is what P14.3 says of Receive.
func (m *told) receive(p api.Packet) {
	if m.left || p.To != m.self {
		return
	}
	l, err := speech.Unpack(p.Body)
	if err != api.OK {
		m.counts.Wrong++
		return
	}
	for _, x := range l {
		if x.From != m.self {
			m.hear(x)
		}
	}
}

// hear is what P14.3 says of the messages.
func (m *told) hear(x api.Msg) {
	switch x.Kind {
	case kPing:
		if x.Target == m.self {
			m.send(x.From, ack(x.Seq, m.self))
		}
	case kAck:
		m.hearAck(x)
	case kAsk:
		m.hearAsk(x)
	case kNack:
		m.counts.Nacks++
	case kTell, kTables:
		for _, u := range x.Us {
			m.accept(u, x.From)
		}
		if x.Kind == kTables && !x.Reply {
			m.send(x.From, reply(m.self, m.r.List()...))
		}
	}
}

// hearAck is what P14.3 says of an Ack.
func (m *told) hearAck(x api.Msg) {
	if m.current.there && m.current.seq == x.Seq && m.current.node == x.From {
		m.current.there = false
		m.timers[4], m.timers[5] = 0, 0
		return
	}
	for i := range m.relays {
		y := &m.relays[i]
		if y.there && y.seq == x.Seq && y.node == x.From {
			y.there = false
			m.timers[16+i] = 0
			m.send(y.client, ack(y.asked, y.node))
			return
		}
	}
}

// hearAsk is what P14.3 says of an Ask.
func (m *told) hearAsk(x api.Msg) {
	if x.Target == m.self {
		m.send(x.From, ack(x.Seq, m.self))
		return
	}
	for i := range m.relays {
		if !m.relays[i].there {
			m.seq++
			m.relays[i] = inquiry{true, m.seq, x.Target, x.Seq, x.From}
			m.timers[16+i] = m.c.Wait
			m.send(x.Target, ping(m.seq, m.self, x.Target))
			return
		}
	}
}

// join is what P14.4 says of Join.
func (m *told) join(peer int) {
	if !m.left && peer >= 0 && peer < nodes && peer != m.self {
		m.send(peer, tables(m.self, m.r.List()...))
	}
}

// leave is what P14.4 says of Leave.
func (m *told) leave() {
	if !m.left {
		m.left = true
		u, _ := m.r.Leave()
		m.broadcast(u)
	}
}

// held is what P14.5 says of Held.
func (m *told) held(node int) (swim.Held, bool) {
	if node < 0 || node >= nodes || m.doubts[node] == nil {
		return swim.Held{}, false
	}
	x := m.doubts[node]
	return swim.Held{Inc: x.inc, Have: x.d.Have(), Elapsed: x.d.Elapsed(), Wait: x.d.Wait()}, true
}

// pair is a node, and one by the chapter's words.
type pair struct {
	t *testing.T
	s *swim.Swim
	m *told
}

// both is a new node, and one by the chapter's words.
func both(t *testing.T, c api.Swim, self int, inc uint32, draws ...uint32) *pair {
	t.Helper()
	p := &pair{t, made(t, c, self, inc, draws...), telling(c, self, inc, draws)}
	p.agree("New")
	return p
}

// made is a new node.
func made(t *testing.T, c api.Swim, self int, inc uint32, draws ...uint32) *swim.Swim {
	t.Helper()
	s, err := swim.New(c, self, inc, draws)
	if s == nil || err != api.OK {
		t.Fatalf("New(%+v, %d, %d) = %v, %d", c, self, inc, s, err)
	}
	return s
}

// agree fails where the node tells something else than the chapter's words.
func (p *pair) agree(call string) {
	p.t.Helper()
	s, m := p.s, p.m
	if got, want := s.View(), m.r.List(); !slices.Equal(got, want) {
		p.t.Fatalf("%s: View = %v, want %v", call, got, want)
	}
	if got, want := s.Live(), m.r.Live(); !slices.Equal(got, want) {
		p.t.Fatalf("%s: Live = %v, want %v", call, got, want)
	}
	if got, want := s.Self(), m.r.Self(); got != want {
		p.t.Fatalf("%s: Self = %v, want %v", call, got, want)
	}
	if got, want := s.Rumors(), m.q.List(); !slices.Equal(got, want) {
		p.t.Fatalf("%s: Rumors = %v, want %v", call, got, want)
	}
	if got, want := s.Events(), m.events; !slices.Equal(got, want) {
		p.t.Fatalf("%s: Events = %v, want %v", call, got, want)
	}
	if got, want := s.Counts(), m.counts; got != want {
		p.t.Fatalf("%s: Counts = %+v, want %+v", call, got, want)
	}
	for n := -1; n <= nodes; n++ {
		got, is := s.Held(n)
		if want, there := m.held(n); got != want || is != there {
			p.t.Fatalf("%s: Held(%d) = %+v, %t, want %+v, %t", call, n, got, is, want, there)
		}
	}
}

// sent fails where the node has sent something else in a call than the chapter's words ask for.
func (p *pair) sent(call string, got []api.Packet) []api.Packet {
	p.t.Helper()
	expect(p.t, p.m.self, got, p.m.out...)
	p.m.out = nil
	p.agree(call)
	return got
}

// tick lets both tick.
func (p *pair) tick() []api.Packet {
	p.t.Helper()
	p.m.tick()
	return p.sent("Tick", p.s.Tick())
}

// receive lets both receive a packet.
func (p *pair) receive(x api.Packet) []api.Packet {
	p.t.Helper()
	p.m.receive(x)
	return p.sent("Receive", p.s.Receive(x))
}

// join lets both join.
func (p *pair) join(peer int) []api.Packet {
	p.t.Helper()
	p.m.join(peer)
	return p.sent("Join", p.s.Join(peer))
}

// leave lets both leave.
func (p *pair) leave() []api.Packet {
	p.t.Helper()
	p.m.leave()
	return p.sent("Leave", p.s.Leave())
}
