package speech_test

import (
	"bytes"
	"math"
	"slices"
	"testing"

	"sodality/api"
	"sodality/frame"
	"sodality/speech"
)

// The numbers of the chapter and of the words it leans on.
const (
	ping   = 1
	ack    = 2
	ask    = 3
	nack   = 4
	tell   = 5
	tables = 6

	nodes    = 8
	statuses = 4
	many     = 16
	most     = 1<<32 - 1
	packet   = 1400
	frames   = 32
)

// ints is numbers of any kind: small ones, those around the limits, those that a narrower integer takes for small ones, and where integers end.
func ints() []int {
	l := []int{math.MinInt, math.MinInt + 1, math.MinInt32, math.MaxInt32, math.MaxInt - 1, math.MaxInt, -256, -255, 1 << 62, -1 << 32}
	for n := -9; n <= 17; n++ {
		l = append(l, n, 256+n, 1<<16+n, 1<<32+n)
	}
	return l
}

// words is numbers of 32 bits, around each place where one more byte is needed.
func words() []uint32 {
	return []uint32{0, 1, 2, 7, 8, 127, 128, 255, 256, 257, 65535, 65536, 65537, 1<<24 - 1, 1 << 24, 1<<24 + 1, 1<<31 - 1, 1 << 31, most - 1, most}
}

// chance is numbers that follow from a seed.
type chance uint64

// below is the next number, from 0 to n-1.
func (c *chance) below(n int) int {
	*c = *c*6364136223846793005 + 1442695040888963407
	return int(uint64(*c)>>33) % n
}

// word is any of 32 bits, often where one more byte is needed.
func (c *chance) word() uint32 {
	if c.below(2) == 0 {
		return words()[c.below(len(words()))]
	}
	return uint32(c.below(1<<16)<<16|c.below(1<<16)) >> c.below(32)
}

// updates is so many valid updates.
func (c *chance) updates(n int) []api.Update {
	var l []api.Update
	for range n {
		l = append(l, api.Update{Node: c.below(nodes), Inc: c.word(), Status: c.below(statuses)})
	}
	return l
}

// msg is any valid message.
func (c *chance) msg() api.Msg {
	m := api.Msg{Kind: 1 + c.below(6), From: c.below(nodes)}
	switch m.Kind {
	case ping, ask:
		m.Seq, m.Target = c.word(), c.below(nodes)
	case ack, nack:
		m.Seq = c.word()
	case tables:
		m.Reply = c.below(2) == 0
		m.Us = c.updates(c.below(many + 1))
	case tell:
		m.Us = c.updates(c.below(many + 1))
	}
	return m
}

// msgs is so many valid messages.
func (c *chance) msgs(n int) []api.Msg {
	var l []api.Msg
	for range n {
		l = append(l, c.msg())
	}
	return l
}

// rightUpdate is what the chapters say of a valid update.
func rightUpdate(u api.Update) bool {
	return u.Node >= 0 && u.Node <= nodes-1 && u.Status >= 0 && u.Status <= statuses-1
}

// right is what the chapter says of a valid message.
func right(m api.Msg) bool {
	switch m.Kind {
	case ping, ask:
		if m.Reply || len(m.Us) > 0 {
			return false
		}
	case ack, nack:
		if m.Target != 0 || m.Reply || len(m.Us) > 0 {
			return false
		}
	case tell:
		if m.Seq != 0 || m.Target != 0 || m.Reply {
			return false
		}
	case tables:
		if m.Seq != 0 || m.Target != 0 {
			return false
		}
	default:
		return false
	}
	if m.From < 0 || m.From >= nodes || m.Target < 0 || m.Target >= nodes || len(m.Us) > many {
		return false
	}
	for _, u := range m.Us {
		if !rightUpdate(u) {
			return false
		}
	}
	return true
}

// num is what chapter 4 says of a number.
func num(n uint64) []byte {
	var b []byte
	for ; n > 0; n /= 256 {
		b = append([]byte{byte(n % 256)}, b...)
	}
	return append([]byte{byte(len(b))}, b...)
}

// body is what the chapter says of the fields' encoding.
func body(m api.Msg) []byte {
	var b []byte
	if m.Kind <= nack {
		b = append(b, num(uint64(m.Seq))...)
	}
	b = append(b, num(uint64(m.From))...)
	switch m.Kind {
	case ping, ask:
		return append(b, num(uint64(m.Target))...)
	case ack, nack:
		return b
	case tables:
		if m.Reply {
			b = append(b, 1, 1)
		} else {
			b = append(b, 0)
		}
	}
	b = append(b, num(uint64(len(m.Us)))...)
	for _, u := range m.Us {
		b = slices.Concat(b, num(uint64(u.Node)), num(uint64(u.Inc)), num(uint64(u.Status)))
	}
	return b
}

// cursor reads bytes by the words of chapter 4.
type cursor struct {
	b   []byte
	err api.Errno
}

// num is what P4.2 says of Num.
func (c *cursor) num(most uint64) uint64 {
	if c.err != 0 {
		return 0
	}
	if len(c.b) == 0 {
		c.err = api.ErrEnd
		return 0
	}
	size := int(c.b[0])
	if size > 8 || size > 0 && len(c.b) > 1 && c.b[1] == 0 {
		c.err = api.ErrForm
		return 0
	}
	if len(c.b) < 1+size {
		c.err = api.ErrEnd
		return 0
	}
	n := uint64(0)
	for _, x := range c.b[1 : 1+size] {
		n = n*256 + uint64(x)
	}
	if n > most {
		c.err = api.ErrLong
		return 0
	}
	c.b = c.b[1+size:]
	return n
}

// flag is what P4.2 says of Flag.
func (c *cursor) flag() bool {
	n := c.num(math.MaxUint64)
	if n > 1 {
		c.err = api.ErrForm
	}
	return n == 1
}

// got is what P13.2 says of Get.
func got(f api.Frame) (api.Msg, api.Errno) {
	m := api.Msg{Kind: int(f.Kind)}
	if m.Kind < ping || m.Kind > tables {
		return api.Msg{}, api.ErrKind
	}
	c := cursor{b: f.Body}
	if m.Kind <= nack {
		m.Seq = uint32(c.num(most))
	}
	m.From = int(c.num(255))
	if m.Kind == ping || m.Kind == ask {
		m.Target = int(c.num(255))
	}
	if m.Kind == tables {
		m.Reply = c.flag()
	}
	if m.Kind >= tell {
		for n := c.num(many); n > 0; n-- {
			var u api.Update
			u.Node = int(c.num(255))
			u.Inc = uint32(c.num(most))
			u.Status = int(c.num(255))
			m.Us = append(m.Us, u)
		}
	}
	switch {
	case c.err != 0:
		return api.Msg{}, c.err
	case len(c.b) > 0:
		return api.Msg{}, api.ErrRest
	case !right(m):
		return api.Msg{}, api.ErrArg
	}
	return m, 0
}

// same asks whether two messages are the same.
func same(a, b api.Msg) bool {
	return a.Kind == b.Kind && a.Seq == b.Seq && a.From == b.From && a.Target == b.Target && a.Reply == b.Reply && slices.Equal(a.Us, b.Us)
}

// get is Get of a frame, which must do as the chapter's words have it.
func get(t *testing.T, kind uint8, b []byte) (api.Msg, api.Errno) {
	t.Helper()
	f := api.Frame{Kind: kind, Body: b}
	m, err := speech.Get(f)
	want, wanted := got(f)
	if !same(m, want) || err != wanted {
		t.Fatalf("Get(%d, %x) = %v, %d, want %v, %d", kind, b, m, err, want, wanted)
	}
	return m, err
}

// put is Put of a message, which must do as the chapter's words have it.
func put(t *testing.T, m api.Msg) (api.Frame, api.Errno) {
	t.Helper()
	f, err := speech.Put(m)
	if is := speech.Right(m); is != right(m) {
		t.Fatalf("Right(%v) = %t", m, is)
	}
	if !right(m) {
		if err != api.ErrArg || f.Kind != 0 || len(f.Body) != 0 {
			t.Fatalf("Put(%v) = %v, %d", m, f, err)
		}
		return f, err
	}
	if err != 0 || int(f.Kind) != m.Kind || !bytes.Equal(f.Body, body(m)) {
		t.Fatalf("Put(%v) = %d, %x, %d, want %x", m, f.Kind, f.Body, err, body(m))
	}
	return f, err
}

// sealed is frames as bytes, whatever their kinds and bodies are.
func sealed(t *testing.T, l ...api.Frame) []byte {
	t.Helper()
	var b []byte
	for _, f := range l {
		var err api.Errno
		if b, err = frame.Put(b, f); err != 0 {
			t.Fatalf("frame.Put(%v) = %d", f, err)
		}
	}
	return b
}

// laid is messages as frames, by the chapter's words.
func laid(l ...api.Msg) []api.Frame {
	var out []api.Frame
	for _, m := range l {
		out = append(out, api.Frame{Kind: uint8(m.Kind), Body: body(m)})
	}
	return out
}

// unpack is Unpack of bytes, which must do as the chapter's words have it.
func unpack(t *testing.T, b []byte) ([]api.Msg, api.Errno) {
	t.Helper()
	l, err := speech.Unpack(b)
	var want []api.Msg
	fs, wanted := frame.Unpack(b)
	for _, f := range fs {
		m, e := got(f)
		if e != 0 {
			want, wanted = nil, e
			break
		}
		want = append(want, m)
	}
	if err != wanted || !slices.EqualFunc(l, want, same) {
		t.Fatalf("Unpack(%x) = %v, %d, want %v, %d", b, l, err, want, wanted)
	}
	return l, err
}

// pack is Pack of messages, which must do as the chapter's words have it.
func pack(t *testing.T, l []api.Msg) ([]byte, api.Errno) {
	t.Helper()
	b, err := speech.Pack(l)
	var want []byte
	wanted := api.ErrArg
	if !slices.ContainsFunc(l, func(m api.Msg) bool { return !right(m) }) {
		want, wanted = frame.Pack(laid(l...))
	}
	if err != wanted || !bytes.Equal(b, want) {
		t.Fatalf("Pack(%v) = %x, %d, want %x, %d", l, b, err, want, wanted)
	}
	return b, err
}

// one is a valid message of each kind, with each field that it has.
func one(kind int) api.Msg {
	us := []api.Update{{Node: 3, Inc: 300, Status: 1}, {Node: 0, Inc: 0, Status: 0}, {Node: 7, Inc: most, Status: 3}}
	switch kind {
	case ping, ask:
		return api.Msg{Kind: kind, Seq: 9, From: 2, Target: 5}
	case ack, nack:
		return api.Msg{Kind: kind, Seq: 1000, From: 6}
	case tell:
		return api.Msg{Kind: kind, From: 4, Us: us}
	}
	return api.Msg{Kind: kind, From: 1, Reply: true, Us: us}
}

// wrongs is messages that are not valid, of each kind and in each way.
func wrongs() []api.Msg {
	var l []api.Msg
	for kind := ping; kind <= tables; kind++ {
		for _, turn := range []func(*api.Msg){
			func(m *api.Msg) { m.Kind += 6 },
			func(m *api.Msg) { m.Kind = -m.Kind },
			func(m *api.Msg) { m.Kind += 256 },
			func(m *api.Msg) { m.From = nodes },
			func(m *api.Msg) { m.From = -1 },
			func(m *api.Msg) { m.Target = nodes },
			func(m *api.Msg) { m.Target = -1 },
			func(m *api.Msg) { m.Us = []api.Update{{Node: nodes}} },
			func(m *api.Msg) { m.Us = []api.Update{{Status: statuses}} },
			func(m *api.Msg) { m.Us = make([]api.Update, many+1) },
		} {
			m := one(kind)
			turn(&m)
			l = append(l, m)
		}
		if m := one(kind); kind >= tell {
			m.Seq = 1
			l = append(l, m)
		}
		if m := one(kind); kind != ping && kind != ask {
			m.Target = 1
			l = append(l, m)
		}
		if m := one(kind); kind != tables {
			m.Reply = true
			l = append(l, m)
		}
		if m := one(kind); kind <= nack {
			m.Us = make([]api.Update, 1)
			l = append(l, m)
		}
	}
	return append(l, api.Msg{})
}

// The chapter's examples.
func TestExamples(t *testing.T) {
	f, err := speech.Put(api.Msg{Kind: ping, Seq: 5, From: 1, Target: 2})
	if err != 0 || f.Kind != 1 || !bytes.Equal(f.Body, []byte{1, 5, 1, 1, 1, 2}) {
		t.Errorf("Put of a Ping = %v, %d", f, err)
	}
	if m, err := speech.Get(api.Frame{Kind: 2, Body: []byte{1, 5}}); err != 30 || !same(m, api.Msg{}) {
		t.Errorf("Get of a short Ack = %v, %d", m, err)
	}
	if m, err := speech.Get(api.Frame{Kind: 9, Body: []byte{1, 5, 1, 1}}); err != 31 || !same(m, api.Msg{}) {
		t.Errorf("Get of kind 9 = %v, %d", m, err)
	}
	if f, err := speech.Put(api.Msg{Kind: ack, Target: 2}); err != 2 || f.Kind != 0 || len(f.Body) != 0 {
		t.Errorf("Put of an Ack with a Target = %v, %d", f, err)
	}
}

// P13.1: each kind's fields, to the byte and in their order.
func TestP131Bytes(t *testing.T) {
	us := []api.Update{{Node: 3, Inc: 300, Status: 1}, {Node: 0, Inc: 0, Status: 0}, {Node: 7, Inc: most, Status: 3}}
	list := []byte{1, 3, 1, 3, 2, 1, 44, 1, 1, 0, 0, 0, 1, 7, 4, 255, 255, 255, 255, 1, 3}
	for _, x := range []struct {
		m    api.Msg
		body []byte
	}{
		{api.Msg{Kind: ping}, []byte{0, 0, 0}},
		{api.Msg{Kind: ping, Seq: 300, From: 4, Target: 3}, []byte{2, 1, 44, 1, 4, 1, 3}},
		{api.Msg{Kind: ack}, []byte{0, 0}},
		{api.Msg{Kind: ack, Seq: 1, From: 2}, []byte{1, 1, 1, 2}},
		{api.Msg{Kind: ask}, []byte{0, 0, 0}},
		{api.Msg{Kind: ask, Seq: most, From: 7, Target: 6}, []byte{4, 255, 255, 255, 255, 1, 7, 1, 6}},
		{api.Msg{Kind: nack}, []byte{0, 0}},
		{api.Msg{Kind: nack, Seq: 1 << 24, From: 5}, []byte{4, 1, 0, 0, 0, 1, 5}},
		{api.Msg{Kind: tell}, []byte{0, 0}},
		{api.Msg{Kind: tell, From: 1, Us: us}, slices.Concat([]byte{1, 1}, list)},
		{api.Msg{Kind: tables}, []byte{0, 0, 0}},
		{api.Msg{Kind: tables, From: 6, Us: us}, slices.Concat([]byte{1, 6, 0}, list)},
		{api.Msg{Kind: tables, From: 6, Reply: true, Us: us}, slices.Concat([]byte{1, 6, 1, 1}, list)},
		{api.Msg{Kind: tables, Reply: true, Us: []api.Update{}}, []byte{0, 1, 1, 0}},
	} {
		f, err := put(t, x.m)
		if err != 0 || int(f.Kind) != x.m.Kind || !bytes.Equal(f.Body, x.body) {
			t.Errorf("Put(%v) = %d, %x, %d, want %x", x.m, f.Kind, f.Body, err, x.body)
		}
		if m, err := get(t, f.Kind, x.body); err != 0 || !same(m, x.m) {
			t.Errorf("Get(%d, %x) = %v, %d, want %v", f.Kind, x.body, m, err, x.m)
		}
	}
}

// P13.1: of each kind, and of numbers that are none, with and without each field, also with those that are wrong.
func TestP131Fields(t *testing.T) {
	for _, kind := range ints() {
		for _, seq := range []uint32{0, 1, most} {
			for _, from := range []int{-1, 0, 7, 8} {
				for _, target := range []int{-1, 0, 1, 7, 8} {
					for _, reply := range []bool{false, true} {
						for _, us := range [][]api.Update{nil, {}, {{}}, {{Node: 8}}, {{Node: 1}, {Status: 4}}} {
							put(t, api.Msg{Kind: kind, Seq: seq, From: from, Target: target, Reply: reply, Us: us})
						}
					}
				}
			}
		}
	}
}

// P13.1: From and Target may be nodes alone, whatever numbers they are.
func TestP131Nodes(t *testing.T) {
	for kind := ping; kind <= tables; kind++ {
		for _, n := range ints() {
			m := one(kind)
			m.From = n
			if _, err := put(t, m); (err == 0) != (n >= 0 && n < nodes) {
				t.Errorf("Put(%v): %d", m, err)
			}
			m = one(kind)
			m.Target = n
			has := kind == ping || kind == ask
			if _, err := put(t, m); (err == 0) != (n == 0 || has && n > 0 && n < nodes) {
				t.Errorf("Put(%v): %d", m, err)
			}
		}
	}
}

// P13.1: sequence numbers and incarnations around each place where one more byte is needed.
func TestP131Words(t *testing.T) {
	for _, n := range words() {
		for kind := ping; kind <= tables; kind++ {
			m := one(kind)
			if kind <= nack {
				m.Seq = n
			} else {
				m.Us = []api.Update{{Node: 2, Inc: n, Status: 2}, {Node: 1, Inc: n / 2}}
			}
			if _, err := put(t, m); err != 0 {
				t.Errorf("Put(%v): %d", m, err)
			}
			m.Seq = n
			if _, err := put(t, m); (err == 0) != (n == 0 || kind <= nack) {
				t.Errorf("Put(%v): %d", m, err)
			}
		}
	}
}

// P13.1: up to 16 updates may be there, and no more.
func TestP131Many(t *testing.T) {
	c := chance(1)
	for _, kind := range []int{tell, tables} {
		for _, n := range []int{0, 1, 2, 15, 16, 17, 18, 32, 255, 256, 272, 65536, 65552} {
			m := one(kind)
			m.Us = c.updates(n)
			if _, err := put(t, m); (err == 0) != (n <= 16) {
				t.Errorf("Put of %d updates: %d", n, err)
			}
		}
	}
}

// P13.1: each of the updates must be valid, wherever it stands; they may be about the same node, in any order.
func TestP131Updates(t *testing.T) {
	c := chance(2)
	for _, kind := range []int{tell, tables} {
		for n := 1; n <= many; n++ {
			for at := range n {
				for _, x := range ints() {
					m := one(kind)
					m.Us = c.updates(n)
					m.Us[at].Node = x
					if _, err := put(t, m); (err == 0) != (x >= 0 && x < nodes) {
						t.Errorf("Put(%v): %d", m, err)
					}
					m.Us[at] = api.Update{Inc: 7, Status: x}
					if _, err := put(t, m); (err == 0) != (x >= 0 && x < statuses) {
						t.Errorf("Put(%v): %d", m, err)
					}
				}
			}
		}
		for node := range nodes {
			for status := range statuses {
				m := one(kind)
				m.Us = []api.Update{{Node: node, Inc: 5, Status: status}, {Node: node, Inc: 5, Status: status}, {Node: 0, Inc: 4}}
				if _, err := put(t, m); err != 0 {
					t.Errorf("Put(%v): %d", m, err)
				}
			}
		}
	}
}

// P13.1: in whatever way a message is wrong, it is no frame.
func TestP131Wrong(t *testing.T) {
	for _, m := range wrongs() {
		if f, err := speech.Put(m); speech.Right(m) || err != api.ErrArg || f.Kind != 0 || len(f.Body) != 0 {
			t.Errorf("Right(%v) = %t, Put = %v, %d", m, speech.Right(m), f, err)
		}
	}
	for kind := ping; kind <= tables; kind++ {
		if m := one(kind); !speech.Right(m) {
			t.Errorf("Right(%v) = false", m)
		}
	}
}

// P13.1: any messages.
func TestP131Any(t *testing.T) {
	c := chance(3)
	for range 50000 {
		put(t, c.msg())
	}
}

// P13.2: a kind that is none comes ahead of all else that is wrong.
func TestP132Kinds(t *testing.T) {
	for kind := range 256 {
		is := kind >= ping && kind <= tables
		for _, b := range [][]byte{nil, {}, {0}, {0, 0}, {0, 0, 0}, {9}, {1, 0}, {8, 1}, {0, 0, 0, 0}, {1, 200, 1, 200, 1, 200}, make([]byte, 2000)} {
			if _, err := get(t, uint8(kind), b); (err == api.ErrKind) == is {
				t.Errorf("Get(%d, %x): %d", kind, b, err)
			}
		}
	}
}

// P13.2: each error of each field.
func TestP132Errors(t *testing.T) {
	for _, x := range []struct {
		kind uint8
		body []byte
		err  api.Errno
	}{
		{ping, []byte{}, api.ErrEnd},
		{ping, []byte{0}, api.ErrEnd},
		{ping, []byte{0, 0}, api.ErrEnd},
		{ping, []byte{0, 0, 1}, api.ErrEnd},
		{ping, []byte{0, 0, 0, 0}, api.ErrRest},
		{ping, []byte{4, 255, 255, 255, 255, 0, 0}, api.OK},
		{ping, []byte{5, 1, 0, 0, 0, 0, 0, 0}, api.ErrLong},
		{ping, []byte{8, 255, 255, 255, 255, 255, 255, 255, 255, 0, 0}, api.ErrLong},
		{ping, []byte{5, 1, 0, 0, 0}, api.ErrEnd},
		{ping, []byte{9, 1}, api.ErrForm},
		{ping, []byte{1, 0}, api.ErrForm},
		{ping, []byte{2, 0}, api.ErrForm},
		{ping, []byte{0, 1, 7, 1, 7}, api.OK},
		{ping, []byte{0, 1, 8, 0}, api.ErrArg},
		{ping, []byte{0, 1, 255, 0}, api.ErrArg},
		{ping, []byte{0, 2, 1, 0, 0}, api.ErrLong},
		{ping, []byte{0, 0, 1, 8}, api.ErrArg},
		{ping, []byte{0, 0, 1, 255}, api.ErrArg},
		{ping, []byte{0, 0, 2, 1, 0}, api.ErrLong},
		{ask, []byte{0, 0, 1, 8}, api.ErrArg},
		{ask, []byte{0, 0, 2, 1, 0}, api.ErrLong},
		{ask, []byte{0, 0}, api.ErrEnd},
		{ack, []byte{0, 0, 0}, api.ErrRest},
		{ack, []byte{0, 1, 8}, api.ErrArg},
		{ack, []byte{0, 2, 1, 0}, api.ErrLong},
		{nack, []byte{0, 0, 0}, api.ErrRest},
		{nack, []byte{5, 1, 1, 1, 1, 1, 0}, api.ErrLong},
		{tell, []byte{0}, api.ErrEnd},
		{tell, []byte{0, 1}, api.ErrEnd},
		{tell, []byte{0, 1, 1}, api.ErrEnd},
		{tell, []byte{0, 1, 1, 0, 0}, api.ErrEnd},
		{tell, []byte{0, 1, 1, 0, 0, 0}, api.OK},
		{tell, []byte{0, 1, 1, 0, 0, 0, 0}, api.ErrRest},
		{tell, []byte{0, 0, 0}, api.ErrRest},
		{tell, []byte{0, 1, 17}, api.ErrLong},
		{tell, []byte{0, 1, 16}, api.ErrEnd},
		{tell, []byte{0, 2, 1, 1}, api.ErrLong},
		{tell, []byte{0, 8, 255, 255, 255, 255, 255, 255, 255, 255}, api.ErrLong},
		{tell, []byte{0, 1, 0}, api.ErrForm},
		{tell, []byte{0, 1, 1, 1, 8, 0, 0}, api.ErrArg},
		{tell, []byte{0, 1, 1, 1, 255, 0, 0}, api.ErrArg},
		{tell, []byte{0, 1, 1, 2, 1, 0, 0, 0}, api.ErrLong},
		{tell, []byte{0, 1, 1, 0, 4, 255, 255, 255, 255, 0}, api.OK},
		{tell, []byte{0, 1, 1, 0, 5, 1, 0, 0, 0, 0, 0}, api.ErrLong},
		{tell, []byte{0, 1, 1, 0, 0, 1, 3}, api.OK},
		{tell, []byte{0, 1, 1, 0, 0, 1, 4}, api.ErrArg},
		{tell, []byte{0, 1, 1, 0, 0, 1, 255}, api.ErrArg},
		{tell, []byte{0, 1, 1, 0, 0, 2, 1, 0}, api.ErrLong},
		{tables, []byte{0}, api.ErrEnd},
		{tables, []byte{0, 0}, api.ErrEnd},
		{tables, []byte{0, 0, 0}, api.OK},
		{tables, []byte{0, 1, 1, 0}, api.OK},
		{tables, []byte{0, 1, 2, 0}, api.ErrForm},
		{tables, []byte{0, 8, 1, 1, 1, 1, 1, 1, 1, 1, 0}, api.ErrForm},
		{tables, []byte{0, 1, 0, 0}, api.ErrForm},
		{tables, []byte{0, 0, 1, 17}, api.ErrLong},
		{tables, []byte{0, 0, 0, 0}, api.ErrRest},
		{tables, []byte{2, 1, 0, 0, 0}, api.ErrLong},
		{tables, []byte{1, 8, 0, 0}, api.ErrArg},
	} {
		if m, err := get(t, x.kind, x.body); err != x.err || err != 0 && !same(m, api.Msg{}) {
			t.Errorf("Get(%d, %x) = %v, %d, want %d", x.kind, x.body, m, err, x.err)
		}
	}
}

// P13.2: of several errors the first in reading counts, then what is left, and last whether the message is valid.
func TestP132Order(t *testing.T) {
	for _, x := range []struct {
		kind uint8
		body []byte
		err  api.Errno
	}{
		{ping, []byte{5, 1, 0, 0, 0, 0, 9}, api.ErrLong},
		{ping, []byte{9, 5, 1, 0, 0, 0, 0}, api.ErrForm},
		{ping, []byte{0, 2, 1, 0}, api.ErrLong},
		{ping, []byte{0, 1, 200}, api.ErrEnd},
		{ping, []byte{0, 1, 200, 9}, api.ErrForm},
		{ping, []byte{0, 1, 200, 2, 1, 0}, api.ErrLong},
		{ping, []byte{0, 1, 200, 1, 200, 0}, api.ErrRest},
		{ack, []byte{0, 1, 8, 9}, api.ErrRest},
		{tell, []byte{1, 8, 1, 17}, api.ErrLong},
		{tell, []byte{1, 8, 1, 2, 1, 8, 0, 1, 4, 1, 9, 0}, api.ErrEnd},
		{tell, []byte{1, 8, 1, 2, 1, 8, 0, 1, 4, 1, 9, 0, 0}, api.ErrArg},
		{tell, []byte{1, 8, 1, 2, 1, 8, 0, 1, 4, 1, 9, 0, 0, 0}, api.ErrRest},
		{tell, []byte{0, 1, 2, 2, 1, 0, 9, 9}, api.ErrLong},
		{tell, []byte{0, 1, 2, 0, 9, 2, 1, 0}, api.ErrForm},
		{tell, []byte{0, 1, 2, 0, 0, 2, 1, 0, 9}, api.ErrLong},
		{tables, []byte{1, 8, 1, 2}, api.ErrForm},
		{tables, []byte{1, 8, 0, 1, 17}, api.ErrLong},
		{tables, []byte{1, 8, 0, 0, 5}, api.ErrRest},
	} {
		if m, err := get(t, x.kind, x.body); err != x.err || !same(m, api.Msg{}) {
			t.Errorf("Get(%d, %x) = %v, %d, want %d", x.kind, x.body, m, err, x.err)
		}
	}
}

// P13.2: any few bytes of those that count, of each kind.
func TestP132Short(t *testing.T) {
	some := []byte{0, 1, 2, 4, 7, 8, 9, 16, 17, 255}
	for n := range 6 {
		total := 1
		for range n {
			total *= len(some)
		}
		b := make([]byte, n)
		for x := range total {
			for i := range b {
				b[i] = some[x%len(some)]
				x /= len(some)
			}
			for kind := uint8(ping); kind <= tables; kind++ {
				get(t, kind, b)
			}
		}
	}
}

// P13.2: each cut of a message ends too early, whatever is behind it is left, and each byte of it may become any other.
func TestP132Turned(t *testing.T) {
	c := chance(4)
	for range 60 {
		m := c.msg()
		if len(m.Us) > 5 {
			m.Us = m.Us[:5]
		}
		kind, b := uint8(m.Kind), body(m)
		for end := range b {
			if _, err := get(t, kind, b[:end]); err != api.ErrEnd {
				t.Errorf("Get(%d, %x) = %d", kind, b[:end], err)
			}
		}
		for x := range 256 {
			if _, err := get(t, kind, append(slices.Clone(b), byte(x))); err != api.ErrRest {
				t.Errorf("Get(%d, %x and %d) = %d", kind, b, x, err)
			}
			for at := range b {
				turned := slices.Clone(b)
				turned[at] = byte(x)
				get(t, kind, turned)
				get(t, kind, slices.Insert(slices.Clone(b), at, byte(x)))
			}
		}
		for at := range b {
			get(t, kind, slices.Delete(slices.Clone(b), at, at+1))
		}
	}
}

// P13.2: the bytes of a message of one kind as those of each other one.
func TestP132OtherKinds(t *testing.T) {
	c := chance(5)
	for range 5000 {
		b := body(c.msg())
		for kind := range 9 {
			get(t, uint8(kind), b)
		}
	}
}

// P13.2: each number of updates that is told, with each number of them that is there.
func TestP132Many(t *testing.T) {
	c := chance(6)
	for told := range 40 {
		for there := range 40 {
			b := append([]byte{1, 3}, num(uint64(told))...)
			for _, u := range c.updates(there) {
				b = slices.Concat(b, num(uint64(u.Node)), num(uint64(u.Inc)), num(uint64(u.Status)))
			}
			want := api.OK
			switch {
			case told > many:
				want = api.ErrLong
			case told > there:
				want = api.ErrEnd
			case told < there:
				want = api.ErrRest
			}
			if m, err := get(t, tell, b); err != want || err == 0 && len(m.Us) != told {
				t.Errorf("Get of %d updates, told as %d: %v, %d", there, told, m, err)
			}
			if m, err := get(t, tables, slices.Insert(b, 2, 0)); err != want || err == 0 && len(m.Us) != told {
				t.Errorf("Get of %d updates, told as %d: %v, %d", there, told, m, err)
			}
		}
	}
}

// P13.2: bodies that no frame may have are read like all others.
func TestP132Long(t *testing.T) {
	for _, n := range []int{1000, 1001, 1400, 65536, 1 << 20} {
		for kind := uint8(ping); kind <= tables; kind++ {
			if _, err := get(t, kind, append(body(one(int(kind))), make([]byte, n)...)); err != api.ErrRest {
				t.Errorf("Get of %d bytes too many: %d", n, err)
			}
			if _, err := get(t, kind, bytes.Repeat([]byte{9}, n)); err != api.ErrForm {
				t.Errorf("Get of %d bytes: %d", n, err)
			}
		}
	}
}

// P13.3: any messages, and how they lie: one frame behind the other.
func TestP133Pack(t *testing.T) {
	c := chance(7)
	for range 5000 {
		l := c.msgs(1 + c.below(12))
		b, err := pack(t, l)
		if all := sealed(t, laid(l...)...); len(all) <= packet && (err != 0 || !bytes.Equal(b, all)) {
			t.Fatalf("Pack(%v) = %x, %d, want %x", l, b, err, all)
		} else if len(all) > packet && (err != api.ErrFull || len(b) != 0) {
			t.Fatalf("Pack of %d bytes: %d", len(all), err)
		}
	}
}

// P13.3: without a message, and with more of them than a packet takes.
func TestP133Number(t *testing.T) {
	c := chance(8)
	for n := range 70 {
		var l []api.Msg
		for range n {
			l = append(l, api.Msg{Kind: nack, Seq: c.word(), From: c.below(nodes)})
		}
		b, err := pack(t, l)
		if is := n >= 1 && n <= frames; is != (err == 0) || !is && (err != api.ErrFull || len(b) != 0) {
			t.Errorf("Pack of %d messages: %x, %d", n, b, err)
		}
		if is := n >= 1 && n <= frames; is {
			unpack(t, b)
		}
	}
}

// sized is messages whose frames have so many bytes in all.
func sized(size int) []api.Msg {
	full := api.Msg{Kind: tables, From: 7, Us: slices.Repeat([]api.Update{{Node: 7, Inc: most, Status: 3}}, many)}
	n := frame.Size(len(body(full)))
	var l []api.Msg
	for ; size > n+40; size -= n {
		l = append(l, full)
	}
	// An Ack has 9 to 14 bytes, and from 18 bytes on any number of them is a sum of such.
	for ; size > 28; size -= 11 {
		l = append(l, acked(11))
	}
	return append(l, acked(size/2), acked(size-size/2))
}

// acked is an Ack whose frame has so many bytes, 9 to 14.
func acked(size int) api.Msg {
	m := api.Msg{Kind: ack}
	for frame.Size(len(body(m))) < min(size, 13) {
		m.Seq = m.Seq<<8 | 255
	}
	m.From = size / 14
	return m
}

// P13.3: as many bytes as a packet takes, and one more.
func TestP133Size(t *testing.T) {
	for size := packet - 40; size <= packet+40; size++ {
		l := sized(size)
		if n := len(sealed(t, laid(l...)...)); n != size || len(l) > frames {
			t.Fatalf("%d messages of %d bytes are no proof for %d", len(l), n, size)
		}
		b, err := pack(t, l)
		if is := size <= packet; is && (err != 0 || len(b) != size) || !is && (err != api.ErrFull || len(b) != 0) {
			t.Errorf("Pack of %d bytes: %d bytes, %d", size, len(b), err)
		}
		if back, err := unpack(t, b); size <= packet && (err != 0 || !slices.EqualFunc(back, l, same)) {
			t.Errorf("Unpack of %d bytes: %v, %d", size, back, err)
		}
		if back, err := unpack(t, sealed(t, laid(l...)...)); size > packet && (err != api.ErrFull || len(back) != 0) {
			t.Errorf("Unpack of %d bytes: %v, %d", size, back, err)
		}
	}
}

// P13.3: a message that is not valid comes ahead of a packet that is too full, wherever it stands.
func TestP133Wrong(t *testing.T) {
	c := chance(9)
	for _, wrong := range wrongs() {
		for _, n := range []int{0, 1, 5, 31, 32, 33, 100} {
			l := c.msgs(n)
			for _, at := range []int{0, n / 2, n} {
				if b, err := pack(t, slices.Insert(slices.Clone(l), at, wrong)); err != api.ErrArg || len(b) != 0 {
					t.Fatalf("Pack of %d messages, with %v at %d: %d", n, wrong, at, err)
				}
			}
		}
	}
}

// P13.3: bytes that are no packet, whatever frames of none they begin with.
func TestP133NoPacket(t *testing.T) {
	good := sealed(t, laid(one(ping), one(tell))...)
	other := sealed(t, api.Frame{Kind: 200, Body: []byte{1}})
	short := sealed(t, api.Frame{Kind: ack, Body: []byte{1}})
	broken := slices.Clone(good)
	broken[len(broken)-1] ^= 1
	for _, x := range []struct {
		b   []byte
		err api.Errno
	}{
		{nil, api.ErrFull},
		{[]byte{}, api.ErrFull},
		{[]byte{1}, api.ErrEnd},
		{good[:len(good)-1], api.ErrEnd},
		{append(slices.Clone(good), 1), api.ErrEnd},
		{append(slices.Clone(good), 0, 0, 0), api.ErrKind},
		{append(slices.Clone(good), 1, 255, 255), api.ErrLong},
		{broken, api.ErrSum},
		{other, api.ErrKind},
		{short, api.ErrEnd},
		{slices.Concat(other, broken), api.ErrSum},
		{slices.Concat(short, broken), api.ErrSum},
		{slices.Concat(short, []byte{0, 0, 0}), api.ErrKind},
		{slices.Concat(other, []byte{1, 255, 255}), api.ErrLong},
		{slices.Concat(short, other), api.ErrEnd},
		{slices.Concat(other, short), api.ErrKind},
		{slices.Concat(good, other, short), api.ErrKind},
		{slices.Concat(good, short, other), api.ErrEnd},
		{bytes.Repeat(other, frames), api.ErrKind},
		{bytes.Repeat(other, frames+1), api.ErrFull},
		{make([]byte, packet+1), api.ErrFull},
		{bytes.Repeat(good, 60), api.ErrFull},
	} {
		if l, err := unpack(t, x.b); err != x.err || len(l) != 0 {
			t.Errorf("Unpack(%x) = %v, %d, want %d", x.b, l, err, x.err)
		}
	}
}

// P13.3: the first frame that is no message says what is wrong, wherever it stands among others.
func TestP133First(t *testing.T) {
	bad := []struct {
		f   api.Frame
		err api.Errno
	}{
		{api.Frame{Kind: 7, Body: []byte{0, 0}}, api.ErrKind},
		{api.Frame{Kind: ping, Body: []byte{0, 0}}, api.ErrEnd},
		{api.Frame{Kind: ack, Body: []byte{9, 0}}, api.ErrForm},
		{api.Frame{Kind: nack, Body: []byte{0, 2, 1, 1}}, api.ErrLong},
		{api.Frame{Kind: tell, Body: []byte{0, 0, 0}}, api.ErrRest},
		{api.Frame{Kind: tables, Body: []byte{1, 8, 0, 0}}, api.ErrArg},
	}
	c := chance(10)
	for _, x := range bad {
		for _, y := range bad {
			for n := range 6 {
				for at := range n + 1 {
					l := laid(c.msgs(n)...)
					for i, f := range l {
						if len(f.Body) > 80 {
							l[i] = laid(one(ping))[0]
						}
					}
					l = append(slices.Insert(l, at, x.f), y.f)
					if out, err := unpack(t, sealed(t, l...)); err != x.err || len(out) != 0 {
						t.Fatalf("Unpack with %v at %d = %v, %d", x.f, at, out, err)
					}
				}
			}
		}
	}
}

// P13.3: each byte of a packet, turned into any other.
func TestP133Turned(t *testing.T) {
	b := sealed(t, laid(one(ask), one(tables), one(nack))...)
	for at := range b {
		for x := range 256 {
			turned := slices.Clone(b)
			turned[at] = byte(x)
			unpack(t, turned)
		}
		unpack(t, b[:at])
	}
}

// P13.4: each message and each packet of them is read back as it was laid.
func TestP134Back(t *testing.T) {
	c := chance(11)
	for range 20000 {
		l := c.msgs(1 + c.below(10))
		b, err := speech.Pack(l)
		if err == api.ErrFull {
			continue
		}
		back, wrong := speech.Unpack(b)
		if err != 0 || wrong != 0 || !slices.EqualFunc(back, l, same) {
			t.Fatalf("Unpack undoes Pack of %v: %v, %d, %d", l, back, err, wrong)
		}
		f, err := speech.Put(l[0])
		m, wrong := speech.Get(f)
		if err != 0 || wrong != 0 || !same(m, l[0]) {
			t.Fatalf("Get undoes Put of %v: %v, %d, %d", l[0], m, err, wrong)
		}
	}
}

// P13.4: what Unpack accepts is what Pack makes of it, whatever bytes the frames have.
func TestP134Accepted(t *testing.T) {
	c := chance(12)
	accepted := 0
	for range 200000 {
		var l []api.Frame
		for range 1 + c.below(3) {
			f := laid(c.msg())[0]
			if len(f.Body) > 40 {
				f = laid(one(1 + c.below(6)))[0]
			}
			switch c.below(4) {
			case 0:
				f.Body[c.below(len(f.Body))] = byte(c.below(256))
			case 1:
				f.Body[c.below(len(f.Body))] = byte(c.below(3))
			case 2:
				f.Kind = uint8(1 + c.below(7))
			}
			l = append(l, f)
		}
		b := sealed(t, l...)
		out, err := speech.Unpack(b)
		if err != 0 {
			continue
		}
		accepted++
		if back, err := speech.Pack(out); err != 0 || !bytes.Equal(back, b) {
			t.Fatalf("Pack of what Unpack(%x) accepts = %x, %d", b, back, err)
		}
	}
	if accepted < 1000 {
		t.Errorf("only %d packets were accepted", accepted)
	}
}

// P13.4: what Get accepts is what Put makes of it, whatever few bytes those are.
func TestP134Short(t *testing.T) {
	accepted := 0
	for kind := ping; kind <= tables; kind++ {
		for x := range 1 << 16 {
			for _, tail := range [][]byte{nil, {0}, {0, 0}, {1, 3}, {0, 0, 0}, {1, 1, 0}, {1, 1, 1, 2, 0, 1, 3}} {
				b := append([]byte{byte(x >> 8), byte(x)}, tail...)
				m, err := speech.Get(api.Frame{Kind: uint8(kind), Body: b})
				if err != 0 {
					continue
				}
				accepted++
				if f, err := speech.Put(m); err != 0 || int(f.Kind) != kind || !bytes.Equal(f.Body, b) {
					t.Fatalf("Put of what Get(%d, %x) accepts = %v, %d", kind, b, f, err)
				}
			}
		}
	}
	if accepted < 1000 {
		t.Errorf("only %d bodies were accepted", accepted)
	}
}

// R3: what is handed in is not changed, nor what lies behind it.
func TestGiven(t *testing.T) {
	c := chance(13)
	for range 2000 {
		us := c.updates(20)
		kept := slices.Clone(us)
		m := api.Msg{Kind: tell + c.below(2), From: 3, Us: us[:c.below(many+1)]}
		f, err := speech.Put(m)
		if err != 0 || !speech.Right(m) || !slices.Equal(us, kept) {
			t.Fatalf("Put(%v): the updates became %v", m, us)
		}
		l := append(c.msgs(3), m, m)
		all := slices.Clone(l)
		b, err := speech.Pack(l[:4])
		if err != 0 || !slices.EqualFunc(l, all, same) || !slices.Equal(us, kept) {
			t.Fatalf("Pack: the messages became %v", l)
		}
		long := append(slices.Clone(f.Body), 1, 2, 3)
		before := slices.Clone(long)
		speech.Get(api.Frame{Kind: f.Kind, Body: long[:len(f.Body)]})
		if !bytes.Equal(long, before) {
			t.Fatalf("Get: the bytes became %x", long)
		}
		long = append(slices.Clone(b), 1, 2, 3)
		before = slices.Clone(long)
		speech.Unpack(long[:len(b)])
		if !bytes.Equal(long, before) {
			t.Fatalf("Unpack: the bytes became %x", long)
		}
	}
}

// R3: what is handed out shares memory neither with what was handed in nor with anything else that is handed out.
func TestHandedOut(t *testing.T) {
	m := one(tables)
	a, _ := speech.Put(m)
	b, _ := speech.Put(m)
	clear(m.Us)
	clear(append(a.Body, 1, 2)[:cap(a.Body)])
	if !bytes.Equal(b.Body, body(one(tables))) {
		t.Errorf("Put hands out bytes twice: %x", b.Body)
	}
	x, _ := speech.Get(b)
	y, _ := speech.Get(b)
	clear(b.Body)
	clear(append(x.Us, api.Update{Node: 5})[:cap(x.Us)])
	if !same(y, one(tables)) {
		t.Errorf("Get hands out updates twice: %v", y)
	}
	given := sealed(t, laid(one(tell), one(tables), one(tell))...)
	kept := slices.Clone(given)
	l, err := speech.Unpack(given)
	if err != 0 || len(l) != 3 {
		t.Fatalf("Unpack = %v, %d", l, err)
	}
	clear(given)
	clear(append(l[0].Us, api.Update{Node: 5})[:cap(l[0].Us)])
	clear(append(l[2].Us, api.Update{Node: 5})[:cap(l[2].Us)])
	if !same(l[1], one(tables)) {
		t.Errorf("Unpack hands out updates twice: %v", l[1])
	}
	if b, err := speech.Pack([]api.Msg{one(tell), one(tables), one(tell)}); err != 0 || !bytes.Equal(b, kept) {
		t.Errorf("Pack = %x, %d", b, err)
	}
}
