package flight_test

import (
	"bytes"
	"math"
	"slices"
	"testing"

	"sodality/api"
	"sodality/flight"
)

// room is the most packets that there may be in flight, and long the most bytes of a body.
const (
	room = 256
	long = 1400
)

// told is a flight by the words of the chapter: its capacity, the last number, and what is in flight.
type told struct {
	most, sent int
	in         []api.Flying
}

// picked is the index of the picked packet, by the definition of a pick; there is none if it is below 0.
func (m *told) picked(pick int) int {
	for i := range m.in {
		if rest := pick % len(m.in); rest == i || rest == i-len(m.in) {
			return i
		}
	}
	return -1
}

// send is what P7.2 says of Send.
func (m *told) send(p api.Packet) (int, bool) {
	if len(m.in) >= m.most || len(p.Body) > long {
		return 0, false
	}
	m.sent++
	p.Body = bytes.Clone(p.Body)
	m.in = append(m.in, api.Flying{Id: m.sent, P: p})
	return m.sent, true
}

// copied is what P7.2 says of Copy.
func (m *told) copied(pick int) (int, bool) {
	i := m.picked(pick)
	if i < 0 {
		return 0, false
	}
	return m.send(m.in[i].P)
}

// take is what P7.3 says of Deliver and of Drop: the packet and its number.
func (m *told) take(pick int) (api.Flying, bool) {
	i := m.picked(pick)
	if i < 0 {
		return api.Flying{}, false
	}
	x := m.in[i]
	m.in = append(slices.Clone(m.in[:i]), m.in[i+1:]...)
	return x, true
}

// lose is what P7.3 says of Lose.
func (m *told) lose(to int) int {
	var left []api.Flying
	for _, x := range m.in {
		if x.P.To != to {
			left = append(left, x)
		}
	}
	n := len(m.in) - len(left)
	m.in = left
	return n
}

// same asks whether two packets are the same ones.
func same(a, b api.Packet) bool {
	return a.From == b.From && a.To == b.To && bytes.Equal(a.Body, b.Body)
}

// listed asks whether two lists have the same packets under the same numbers.
func listed(a, b []api.Flying) bool {
	return slices.EqualFunc(a, b, func(x, y api.Flying) bool { return x.Id == y.Id && same(x.P, y.P) })
}

// agree fails where a flight tells something else than the chapter's words.
func agree(t *testing.T, what string, f *flight.Flight, m *told) {
	t.Helper()
	if got := f.List(); !listed(got, m.in) {
		t.Fatalf("%s: List %v, want %v", what, got, m.in)
	}
	if f.Count() != len(m.in) || f.Sent() != m.sent {
		t.Fatalf("%s: Count %d, Sent %d, want %d, %d", what, f.Count(), f.Sent(), len(m.in), m.sent)
	}
}

// sendBoth sends a packet with both, which must answer the same.
func sendBoth(t *testing.T, f *flight.Flight, m *told, p api.Packet) bool {
	t.Helper()
	got, is := f.Send(p)
	if want, did := m.send(p); got != want || is != did {
		t.Fatalf("Send from %d to %d of %d bytes = %d, %t, want %d, %t", p.From, p.To, len(p.Body), got, is, want, did)
	}
	agree(t, "Send", f, m)
	return is
}

// copyBoth copies the picked packet of both.
func copyBoth(t *testing.T, f *flight.Flight, m *told, pick int) bool {
	t.Helper()
	got, is := f.Copy(pick)
	if want, did := m.copied(pick); got != want || is != did {
		t.Fatalf("Copy(%d) = %d, %t, want %d, %t", pick, got, is, want, did)
	}
	agree(t, "Copy", f, m)
	return is
}

// deliverBoth delivers the picked packet of both.
func deliverBoth(t *testing.T, f *flight.Flight, m *told, pick int) api.Packet {
	t.Helper()
	got, is := f.Deliver(pick)
	if want, did := m.take(pick); !same(got, want.P) || is != did {
		t.Fatalf("Deliver(%d) = %v, %t, want %v, %t", pick, got, is, want.P, did)
	}
	agree(t, "Deliver", f, m)
	return got
}

// dropBoth drops the picked packet of both.
func dropBoth(t *testing.T, f *flight.Flight, m *told, pick int) int {
	t.Helper()
	got, is := f.Drop(pick)
	if want, did := m.take(pick); got != want.Id || is != did {
		t.Fatalf("Drop(%d) = %d, %t, want %d, %t", pick, got, is, want.Id, did)
	}
	agree(t, "Drop", f, m)
	return got
}

// loseBoth loses all packets to a node of both.
func loseBoth(t *testing.T, f *flight.Flight, m *told, to int) int {
	t.Helper()
	got := f.Lose(to)
	if want := m.lose(to); got != want {
		t.Fatalf("Lose(%d) = %d, want %d", to, got, want)
	}
	agree(t, "Lose", f, m)
	return got
}

// text is n bytes that follow from a seed.
func text(n, seed int) []byte {
	b := make([]byte, n)
	x := uint32(seed)
	for i := range b {
		x = x*1664525 + 1013904223
		b[i] = byte(x >> 24)
	}
	return b
}

// packet is a packet that differs from the others of its kind in each of its parts.
func packet(i int) api.Packet {
	return api.Packet{From: i % 7, To: i % 5, Body: text(i%23, i)}
}

// both is a flight with as many packets as are asked for, and one by the chapter's words.
func both(t *testing.T, most, packets int) (*flight.Flight, *told) {
	t.Helper()
	f, m := flight.New(most), &told{most: most}
	for i := range packets {
		if !sendBoth(t, f, m, packet(i)) {
			t.Fatalf("Send of packet %d of %d: false", i, packets)
		}
	}
	return f, m
}

// picks is picks around zero, around the numbers of packets, and around where the numbers end.
func picks() []int {
	l := []int{math.MinInt, math.MinInt + 1, math.MinInt + 2, math.MinInt32, -1 << 33, math.MaxInt - 1, math.MaxInt, math.MaxUint32, 1 << 33}
	for n := -13; n <= 13; n++ {
		l = append(l, n)
	}
	return append(l, -513, -512, -257, -256, -255, 255, 256, 257, 511, 512, 513, 1000003, -1000003)
}

// chance is numbers that follow from a seed.
type chance uint64

// below is a number below n.
func (c *chance) below(n int) int {
	*c = *c*6364136223846793005 + 1442695040888963407
	return int(uint64(*c) >> 33 % uint64(n))
}

// pick is any pick, a few of them from where the numbers end.
func (c *chance) pick() int {
	if c.below(8) == 0 {
		l := picks()
		return l[c.below(len(l))]
	}
	return c.below(600) - 300
}

// The chapter's examples.
func TestExamples(t *testing.T) {
	a := api.Packet{From: 1, To: 4, Body: []byte("a")}
	b := api.Packet{From: 2, To: 5, Body: []byte("b")}
	c := api.Packet{From: 3, To: 6, Body: []byte("c")}
	f := flight.New(3)
	for i, p := range []api.Packet{a, b} {
		if n, is := f.Send(p); n != i+1 || !is {
			t.Errorf("Send = %d, %t", n, is)
		}
	}
	if n, is := f.Copy(0); n != 3 || !is {
		t.Errorf("Copy(0) = %d, %t", n, is)
	}
	if n, is := f.Send(c); n != 0 || is {
		t.Errorf("Send(c) = %d, %t", n, is)
	}
	if p, is := f.Deliver(2); !same(p, a) || !is {
		t.Errorf("Deliver(2) = %v, %t", p, is)
	}
	if l := f.List(); !listed(l, []api.Flying{{Id: 1, P: a}, {Id: 2, P: b}}) {
		t.Errorf("List = %v", l)
	}
	if n, is := f.Drop(-1); n != 2 || !is {
		t.Errorf("Drop(-1) = %d, %t", n, is)
	}
	if n := f.Lose(a.To); n != 1 {
		t.Errorf("Lose = %d", n)
	}
	if f.Count() != 0 || f.Sent() != 3 {
		t.Errorf("Count %d, Sent %d", f.Count(), f.Sent())
	}
}

// P7.1: a new flight has no packets and has given no number.
func TestP71New(t *testing.T) {
	for _, most := range []int{math.MinInt, -1, 0, 1, 2, room, room + 1, math.MaxInt} {
		f, m := flight.New(most), &told{most: most}
		agree(t, "New", f, m)
		for _, pick := range picks() {
			deliverBoth(t, f, m, pick)
			dropBoth(t, f, m, pick)
			copyBoth(t, f, m, pick)
			loseBoth(t, f, m, pick)
		}
	}
	if one, two := flight.New(1), flight.New(1); one == nil || one == two {
		t.Error("New made no flight, or one twice")
	}
}

// P7.1: a flight has its capacity, and no more; one below 1 counts as 1, one above the limit as the limit.
func TestP71Most(t *testing.T) {
	for most := 1; most <= room; most++ {
		full(t, most, most)
	}
	for _, most := range []int{0, -1, -2, -room, -room - 1, math.MinInt32, math.MinInt + 1, math.MinInt} {
		full(t, most, 1)
	}
	for _, most := range []int{room + 1, room + 2, 2 * room, 2*room + 1, 1 << 16, math.MaxInt32, 1 << 32, 1<<32 + 1, math.MaxInt - 1, math.MaxInt} {
		full(t, most, room)
	}
}

// full fails where a flight of New(most) has not the wanted capacity, by Send and by Copy.
func full(t *testing.T, most, want int) {
	t.Helper()
	sent, copied := flight.New(most), flight.New(most)
	copied.Send(packet(0))
	for i := range want {
		if _, is := sent.Send(packet(i)); !is {
			t.Fatalf("New(%d): Send %d = false", most, i)
		}
		if _, is := copied.Copy(i); is != (i < want-1) {
			t.Fatalf("New(%d): Copy %d = %t", most, i, is)
		}
	}
	for range 3 {
		if n, is := sent.Send(packet(1)); n != 0 || is {
			t.Fatalf("New(%d), full: Send = %d, %t", most, n, is)
		}
		if n, is := sent.Copy(1); n != 0 || is {
			t.Fatalf("New(%d), full: Copy = %d, %t", most, n, is)
		}
	}
	if sent.Count() != want || sent.Sent() != want || copied.Count() != want || copied.Sent() != want {
		t.Fatalf("New(%d), full: Count %d and %d", most, sent.Count(), copied.Count())
	}
}

// P7.2: Send adds any packet, of any nodes, under the next number.
func TestP72Send(t *testing.T) {
	f, m := both(t, 100, 0)
	nodes := []int{0, 1, 7, 8, 9, -1, -8, 1 << 32, math.MaxInt, math.MinInt}
	for i, from := range nodes {
		for j, to := range nodes {
			if n, is := f.Send(api.Packet{From: from, To: to, Body: text(i, j)}); n != 10*i+j+1 || !is {
				t.Fatalf("Send from %d to %d = %d, %t", from, to, n, is)
			}
			m.send(api.Packet{From: from, To: to, Body: text(i, j)})
			agree(t, "Send", f, m)
		}
	}
	for range 100 {
		deliverBoth(t, f, m, 0)
	}
}

// P7.2: packets that are the same ones have numbers of their own.
func TestP72Same(t *testing.T) {
	f, m := both(t, 12, 0)
	for i := range 12 {
		if n, is := f.Send(packet(3)); n != i+1 || !is {
			t.Fatalf("Send %d of one packet = %d, %t", i, n, is)
		}
		m.send(packet(3))
		agree(t, "Send", f, m)
	}
}

// P7.2: a body may have bytes up to the limit; with more of them nothing is done, and no number is given.
func TestP72Long(t *testing.T) {
	f, m := both(t, room, 0)
	for _, n := range []int{0, 1, 2, 100, 999, 1000, 1001, long - 1, long} {
		for seed := range 3 {
			if !sendBoth(t, f, m, api.Packet{From: 1, To: 2, Body: text(n, seed)}) {
				t.Errorf("Send of %d bytes: false", n)
			}
		}
		if n < long {
			whole := text(long+9, n)
			sendBoth(t, f, m, api.Packet{To: 3, Body: whole[:n]})
		}
		for _, more := range []int{long + 1, long + 2, 2 * long, 1 << 12, 1 << 16, 1<<16 + 1, 1 << 20} {
			if sendBoth(t, f, m, api.Packet{From: 1, To: 2, Body: text(more, n)}) {
				t.Errorf("Send of %d bytes: true", more)
			}
		}
	}
	for f.Count() > 0 {
		deliverBoth(t, f, m, 0)
	}
}

// P7.2: no bytes are a body too, and a list that is not there is one.
func TestP72Empty(t *testing.T) {
	f, m := both(t, 4, 0)
	for _, body := range [][]byte{nil, {}, text(9, 1)[:0]} {
		if !sendBoth(t, f, m, api.Packet{From: 1, To: 2, Body: body}) {
			t.Error("Send of no bytes: false")
		}
	}
	copyBoth(t, f, m, 1)
	for range 4 {
		if p := deliverBoth(t, f, m, 0); len(p.Body) != 0 || p.From != 1 || p.To != 2 {
			t.Errorf("Deliver of no bytes = %v", p)
		}
	}
}

// P7.2: a full flight takes nothing, whatever its packet, and gives no number; where one is taken out there is room again.
func TestP72Full(t *testing.T) {
	for _, most := range []int{1, 2, 5, room} {
		f, m := both(t, most, most)
		outs := []func() int{
			func() int { deliverBoth(t, f, m, most/2); return 1 },
			func() int { dropBoth(t, f, m, -1); return 1 },
			func() int { return loseBoth(t, f, m, m.in[0].P.To) },
		}
		for i, out := range outs {
			for _, p := range []api.Packet{{}, packet(1), {Body: text(long, 1)}, {Body: text(long+1, 1)}} {
				if sendBoth(t, f, m, p) || copyBoth(t, f, m, i) {
					t.Fatalf("a full flight of %d takes a packet", most)
				}
			}
			for n := range out() {
				if n%2 == 0 && !sendBoth(t, f, m, packet(n)) || n%2 == 1 && !copyBoth(t, f, m, n) {
					t.Fatalf("a flight of %d with room takes no packet", most)
				}
			}
		}
	}
}

// P7.2: Copy adds the picked packet once more, under the next number, whatever the pick.
func TestP72Copy(t *testing.T) {
	for have := 1; have <= 12; have++ {
		for _, pick := range picks() {
			f, m := both(t, 14, have)
			if !copyBoth(t, f, m, pick) || !copyBoth(t, f, m, -pick) {
				t.Fatalf("Copy(%d) of %d packets: false", pick, have)
			}
			deliverBoth(t, f, m, have)
			copyBoth(t, f, m, pick)
		}
	}
}

// P7.2: a copy outlives the packet that it is a copy of, and may be copied itself.
func TestP72CopyAlone(t *testing.T) {
	f, m := both(t, 3, 2)
	copyBoth(t, f, m, 0)
	dropBoth(t, f, m, 0)
	copyBoth(t, f, m, 1)
	for range 3 {
		copyBoth(t, f, m, 0)
		deliverBoth(t, f, m, 1)
	}
	for f.Count() > 0 {
		deliverBoth(t, f, m, 0)
	}
	copyBoth(t, f, m, 0)
}

// P7.3: Deliver removes the picked packet and hands it on, whatever the pick.
func TestP73Deliver(t *testing.T) {
	for have := range 13 {
		for _, pick := range picks() {
			f, m := both(t, 20, have)
			for range have + 2 {
				deliverBoth(t, f, m, pick)
			}
			if p, is := f.Deliver(pick); is || !same(p, api.Packet{}) || p.Body != nil {
				t.Fatalf("Deliver(%d) of an empty flight = %v, %t", pick, p, is)
			}
		}
	}
	for _, pick := range picks() {
		f, m := both(t, room, room)
		for range 9 {
			deliverBoth(t, f, m, pick)
		}
	}
}

// P7.3: Drop removes the picked packet and tells its number, whatever the pick.
func TestP73Drop(t *testing.T) {
	for have := range 13 {
		for _, pick := range picks() {
			f, m := both(t, 20, have)
			for range have + 2 {
				dropBoth(t, f, m, pick)
			}
			if n, is := f.Drop(pick); is || n != 0 {
				t.Fatalf("Drop(%d) of an empty flight = %d, %t", pick, n, is)
			}
		}
	}
	for _, pick := range picks() {
		f, m := both(t, room, room)
		for range 9 {
			dropBoth(t, f, m, pick)
		}
	}
}

// P7.3: a pick is told by the order of the numbers, which have gaps where packets were taken out.
func TestP73Gaps(t *testing.T) {
	f, m := both(t, 10, 10)
	for _, pick := range []int{8, 5, 2} {
		dropBoth(t, f, m, pick)
	}
	for i, want := range []int{1, 2, 4, 5, 7, 8, 10} {
		for _, pick := range []int{i, i + 7, i - 7, i + 700, i - 700} {
			f, m := both(t, 10, 10)
			for _, out := range []int{8, 5, 2} {
				dropBoth(t, f, m, out)
			}
			if n := dropBoth(t, f, m, pick); n != want {
				t.Errorf("Drop(%d) = %d, want %d", pick, n, want)
			}
		}
	}
	sendBoth(t, f, m, packet(40))
	if n := dropBoth(t, f, m, -1); n != 11 {
		t.Errorf("Drop(-1) behind Send = %d", n)
	}
}

// P7.3: Lose removes all packets to a node, whichever they are from, and no others.
func TestP73Lose(t *testing.T) {
	nodes := []int{0, 1, 2, 7, 8, -1, math.MaxInt, math.MinInt}
	for _, first := range nodes {
		for _, second := range append(nodes, 3, 9, -8) {
			f, m := both(t, room, 0)
			for i := range 60 {
				sendBoth(t, f, m, api.Packet{From: nodes[i%3], To: nodes[i*i%11%8], Body: text(i, i)})
			}
			loseBoth(t, f, m, first)
			loseBoth(t, f, m, second)
			if n := loseBoth(t, f, m, first); n != 0 {
				t.Errorf("Lose(%d) a second time = %d", first, n)
			}
			sendBoth(t, f, m, packet(1))
		}
	}
}

// P7.3: Lose removes all of a full flight, or none of it, and asks for the destination alone.
func TestP73LoseAll(t *testing.T) {
	f, m := both(t, room, 0)
	for i := range room {
		sendBoth(t, f, m, api.Packet{From: 2, To: 1, Body: text(3, i)})
	}
	for _, to := range []int{0, 2, -1, room, math.MinInt} {
		if n := loseBoth(t, f, m, to); n != 0 {
			t.Errorf("Lose(%d) = %d", to, n)
		}
	}
	if n := loseBoth(t, f, m, 1); n != room {
		t.Errorf("Lose of all = %d", n)
	}
	if !sendBoth(t, f, m, packet(2)) || f.Sent() != room+1 {
		t.Errorf("Sent = %d behind Lose of all", f.Sent())
	}
}

// P7.4: the numbers go on, whatever was taken out and refused in between, and List has them rising.
func TestP74Numbers(t *testing.T) {
	f, m := both(t, 4, 0)
	for i := range 3000 {
		if i%2 == 0 {
			sendBoth(t, f, m, packet(i))
		} else {
			copyBoth(t, f, m, i*7)
		}
		sendBoth(t, f, m, api.Packet{Body: text(long+1, i)})
		if f.Sent() != i+1 {
			t.Fatalf("Sent = %d behind %d packets", f.Sent(), i+1)
		}
		if l := f.List(); !slices.IsSortedFunc(l, func(x, y api.Flying) int { return x.Id - y.Id }) || l[len(l)-1].Id != i+1 {
			t.Fatalf("List = %v", l)
		}
		switch {
		case f.Count() < 4:
		case i%3 == 0:
			deliverBoth(t, f, m, i*5)
		case i%3 == 1:
			dropBoth(t, f, m, -i)
		default:
			loseBoth(t, f, m, m.in[1].P.To)
		}
	}
}

// P7.4: asking changes nothing.
func TestP74Asking(t *testing.T) {
	f, m := both(t, 9, 5)
	for pick := range 5 {
		for range 3 {
			agree(t, "asked again", f, m)
		}
		deliverBoth(t, f, m, pick)
	}
	if l := f.List(); len(l) != 0 || f.Count() != 0 || f.Sent() != 5 {
		t.Errorf("List %v, Count %d, Sent %d of an empty flight", l, f.Count(), f.Sent())
	}
}

// P7.5: a flight that is not there, or that New did not make, does nothing.
func TestP75NoFlight(t *testing.T) {
	var none *flight.Flight
	var held struct{ f flight.Flight }
	var row [1]flight.Flight
	for i, f := range []*flight.Flight{none, {}, new(flight.Flight), &held.f, &row[0]} {
		for range 3 {
			for _, p := range []api.Packet{{}, packet(4), {Body: text(long, 1)}, {Body: text(long+1, 1)}} {
				if n, is := f.Send(p); n != 0 || is {
					t.Fatalf("flight %d: Send = %d, %t", i, n, is)
				}
			}
			for _, pick := range picks() {
				if p, is := f.Deliver(pick); !same(p, api.Packet{}) || p.Body != nil || is {
					t.Fatalf("flight %d: Deliver(%d) = %v, %t", i, pick, p, is)
				}
				if n, is := f.Drop(pick); n != 0 || is {
					t.Fatalf("flight %d: Drop(%d) = %d, %t", i, pick, n, is)
				}
				if n, is := f.Copy(pick); n != 0 || is {
					t.Fatalf("flight %d: Copy(%d) = %d, %t", i, pick, n, is)
				}
				if n := f.Lose(pick); n != 0 {
					t.Fatalf("flight %d: Lose(%d) = %d", i, pick, n)
				}
			}
			if l := f.List(); len(l) != 0 || f.Count() != 0 || f.Sent() != 0 {
				t.Fatalf("flight %d: List %v, Count %d, Sent %d", i, l, f.Count(), f.Sent())
			}
		}
	}
}

// fates is what the calls told of the numbers: the packet of each, and whether it left.
type fates struct {
	was   map[int]api.Packet
	ended map[int]bool
}

// given notes a number that was told, and the packet that it belongs to.
func (l *fates) given(t *testing.T, id int, p api.Packet) {
	if _, is := l.was[id]; is || id != len(l.was)+1 {
		t.Fatalf("number %d is given behind %d others", id, len(l.was))
	}
	l.was[id] = p
}

// step is one call of a flight; the flight's List tells which packets left by it.
func (l *fates) step(t *testing.T, f *flight.Flight, c *chance) {
	ahead := f.List()
	out, arrived := 0, api.Packet{}
	pick, node := c.pick(), c.below(9)
	is := false
	switch c.below(6) {
	case 0, 1:
		p := api.Packet{From: c.below(9), To: node, Body: text(c.below(20), c.below(1000))}
		if id, is := f.Send(p); is {
			l.given(t, id, p)
		}
	case 2:
		if id, is := f.Copy(pick); is {
			l.given(t, id, ahead[(pick%len(ahead)+len(ahead))%len(ahead)].P)
		}
	case 3:
		if _, is := f.Drop(pick); is {
			out = 1
		}
	case 4:
		out = f.Lose(node)
	default:
		if arrived, is = f.Deliver(pick); is {
			out = 1
		}
	}
	ids := l.left(t, ahead, f.List())
	if len(ids) != out {
		t.Fatalf("the packets that left are %d, and not %d", ids, out)
	}
	if is && !same(arrived, l.was[ids[0]]) {
		t.Fatalf("number %d arrives as %v, and was sent as %v", ids[0], arrived, l.was[ids[0]])
	}
}

// left is the numbers of the packets that left; it fails if one left twice.
func (l *fates) left(t *testing.T, ahead, behind []api.Flying) []int {
	var ids []int
	for _, x := range ahead {
		if slices.ContainsFunc(behind, func(y api.Flying) bool { return x.Id == y.Id }) {
			continue
		}
		if l.ended[x.Id] {
			t.Fatalf("number %d left twice", x.Id)
		}
		l.ended[x.Id] = true
		ids = append(ids, x.Id)
	}
	return ids
}

// P7.6: each number that was given is in flight, or has left once; what arrives is what was sent under its number, or what it is a copy of.
func TestP76Fates(t *testing.T) {
	for seed := range 30 {
		c := chance(seed)
		f := flight.New(1 + c.below(40))
		l := &fates{was: map[int]api.Packet{}, ended: map[int]bool{}}
		for range 1500 {
			l.step(t, f, &c)
			if f.Sent() != len(l.was) || f.Count() != len(l.was)-len(l.ended) {
				t.Fatalf("Sent %d, Count %d behind %d packets, of which %d left", f.Sent(), f.Count(), len(l.was), len(l.ended))
			}
			for _, x := range f.List() {
				if l.ended[x.Id] || !same(x.P, l.was[x.Id]) {
					t.Fatalf("in flight is %v, which was %v, left: %t", x, l.was[x.Id], l.ended[x.Id])
				}
			}
		}
	}
}

// P7.6: through any calls the flight does as the chapter's words have it.
func TestP76Any(t *testing.T) {
	for seed := range 60 {
		c := chance(seed)
		most := 1 + c.below(1<<c.below(9))
		f, m := both(t, most, c.below(most+1))
		for range 700 {
			switch c.below(7) {
			case 0, 1, 2:
				n := c.below(30)
				if c.below(9) == 0 {
					n = long - 3 + c.below(7)
				}
				sendBoth(t, f, m, api.Packet{From: c.below(9), To: c.below(9), Body: text(n, c.below(1000))})
			case 3:
				copyBoth(t, f, m, c.pick())
			case 4:
				deliverBoth(t, f, m, c.pick())
			case 5:
				dropBoth(t, f, m, c.pick())
			default:
				loseBoth(t, f, m, c.below(40))
			}
		}
	}
}

// R3: the body that is passed is neither changed nor kept, nor its spare room.
func TestArgument(t *testing.T) {
	for _, n := range []int{0, 1, 30, long, long + 1} {
		whole := text(long+100, n)
		f, m := both(t, 5, 2)
		m.send(api.Packet{To: 1, Body: text(long+100, n)[:n]})
		f.Send(api.Packet{To: 1, Body: whole[:n]})
		copyBoth(t, f, m, -1)
		f.Deliver(0)
		m.take(0)
		f.List()
		if !bytes.Equal(whole, text(long+100, n)) {
			t.Fatalf("a body of %d bytes was changed", n)
		}
		clear(whole)
		agree(t, "a body that was changed later", f, m)
		for f.Count() > 0 {
			deliverBoth(t, f, m, 0)
		}
	}
}

// spoil changes bytes, and their spare room.
func spoil(b []byte) {
	b = b[:cap(b)]
	for i := range b {
		b[i] ^= 0xa5
	}
}

// R3: results share memory with no other result, nor with the flight, nor do the bodies of one result.
func TestResults(t *testing.T) {
	f, m := both(t, 30, 10)
	for i := range 10 {
		copyBoth(t, f, m, i)
		copyBoth(t, f, m, -1)
	}
	one, two, want := f.List(), f.List(), slices.Clone(m.in)
	for i := range one {
		spoil(one[i].P.Body)
		for j := i + 1; j < len(one); j++ {
			if !same(one[j].P, want[j].P) {
				t.Fatalf("bodies %d and %d of one List share memory", i, j)
			}
		}
	}
	for l := one[:cap(one)]; len(l) > 0; l = l[1:] {
		l[0] = api.Flying{Id: -7}
	}
	agree(t, "a List that was changed", f, m)
	for f.Count() > 0 {
		spoil(deliverBoth(t, f, m, 7).Body)
		agree(t, "a packet that was changed when it had arrived", f, m)
	}
	if !listed(two, want) {
		t.Fatal("a result of List shares memory with another one, or with what arrived")
	}
}

// R3: a packet that arrived stays as it is, whatever is sent later.
func TestArrived(t *testing.T) {
	f, m := both(t, 6, 6)
	var got, want []api.Packet
	for i := range 200 {
		x, _ := m.take(i * 3)
		p, _ := f.Deliver(i * 3)
		got, want = append(got, p), append(want, x.P)
		if i%2 == 0 {
			sendBoth(t, f, m, packet(i+50))
		} else {
			copyBoth(t, f, m, i)
		}
	}
	for i := range got {
		if !same(got[i], want[i]) {
			t.Fatalf("packet %d is %v now, and arrived as %v", i, got[i], want[i])
		}
	}
}

// R4: two flights share nothing.
func TestTwo(t *testing.T) {
	one, m := both(t, 8, 5)
	two, n := both(t, 8, 0)
	agree(t, "the other flight", two, n)
	sendBoth(t, two, n, packet(70))
	copyBoth(t, two, n, 0)
	agree(t, "the one flight", one, m)
	loseBoth(t, one, m, 0)
	deliverBoth(t, one, m, 1)
	agree(t, "the other flight later", two, n)
	dropBoth(t, two, n, 0)
	sendBoth(t, one, m, packet(71))
	agree(t, "the other flight at the end", two, n)
	agree(t, "the one flight at the end", one, m)
}
