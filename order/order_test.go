package order_test

import (
	"bytes"
	"math"
	"slices"
	"strings"
	"testing"

	"sodality/api"
	"sodality/field"
	"sodality/order"
)

// The numbers of the chapter and of the words it leans on.
const (
	node        = 1
	dropNode    = 2
	service     = 3
	dropService = 4
	check       = 5
	dropCheck   = 6
	intend      = 7
	turn        = 8
	dropIntent  = 9
	set         = 10
	cas         = 11
	del         = 12
	delCas      = 13
	lock        = 14
	unlock      = 15
	open        = 16
	closes      = 17
	txn         = 18

	client = 15
	wide   = 65535
	long   = 80
	tags   = 8
	subs   = 8
	most   = 1<<32 - 1
)

// layout is all fields of commands, in the order in which they are encoded.
const layout = "Node Port Status Id Name Service Note Key Value Src Dst Tags Allow Old Session Subs"

// listed is the fields that api lists with a kind.
func listed(kind int) string {
	switch kind {
	case node:
		return "Node Note"
	case dropNode, open:
		return "Node"
	case service:
		return "Node Id Name Tags Port"
	case dropService, dropCheck:
		return "Node Id"
	case check:
		return "Node Id Service Note Status"
	case intend:
		return "Src Dst Allow"
	case turn:
		return "Src Dst Allow Old"
	case dropIntent:
		return "Src Dst Old"
	case set:
		return "Key Value"
	case cas:
		return "Key Value Old"
	case del:
		return "Key"
	case delCas:
		return "Key Old"
	case lock, unlock:
		return "Key Value Session"
	case closes:
		return "Session"
	case txn:
		return "Subs"
	}
	return ""
}

// fields is the names of all fields.
func fields() []string {
	return strings.Fields(layout)
}

// has asks whether a kind has a field.
func has(kind int, name string) bool {
	return slices.Contains(strings.Fields(listed(kind)), name)
}

// ints is numbers of any kind: small ones, those around the limits, those that a narrower integer takes for small ones, and where integers end.
func ints() []int {
	l := []int{math.MinInt, math.MinInt + 1, math.MinInt32, math.MaxInt32, math.MaxInt - 1, math.MaxInt, 1 << 62, -1 << 32, -1 << 16, -256}
	for n := -9; n <= 20; n++ {
		l = append(l, n, 256+n, 1<<16+n, 1<<32+n)
	}
	return l
}

// wides is numbers of 64 bits, around each place where one more byte is needed.
func wides() []uint64 {
	l := []uint64{0, 1, 2, 127, 128, math.MaxInt64, math.MaxUint64 - 1, math.MaxUint64}
	for bits := 8; bits < 64; bits += 8 {
		l = append(l, 1<<bits-1, 1<<bits, 1<<bits+1)
	}
	return l
}

// sized is a text of so many bytes.
func sized(n int) string {
	return strings.Repeat("x", n)
}

// sizes is how many bytes texts have, around the most that they may have.
func sizes() []int {
	return []int{0, 1, 2, 9, 24, 32, 64, long - 1, long, long + 1, long + 2, 127, 128, 255, 256, 257, 256 + long, 1 << 16, 1<<16 + long}
}

// chance is numbers that follow from a seed.
type chance uint64

// below is the next number, from 0 to n-1.
func (c *chance) below(n int) int {
	*c = *c*6364136223846793005 + 1442695040888963407
	return int(uint64(*c)>>33) % n
}

// number is any of 64 bits, often where one more byte is needed.
func (c *chance) number() uint64 {
	if c.below(2) == 0 {
		return wides()[c.below(len(wides()))]
	}
	return (uint64(c.below(1<<30))<<34 | uint64(c.below(1<<30))<<10) >> c.below(64)
}

// text is any text that may be, mostly a short one.
func (c *chance) text() string {
	n := c.below(6)
	if c.below(10) == 0 {
		n = c.below(long + 1)
	}
	var b []byte
	for range n {
		b = append(b, byte(c.below(256)))
	}
	return string(b)
}

// texts is so many texts.
func (c *chance) texts(n int) []string {
	var l []string
	for range n {
		l = append(l, c.text())
	}
	return l
}

// fill gives a field any value that may be there.
func (c *chance) fill(o *api.Cmd, name string) {
	small := func() int { return int(c.number() % (wide + 1)) }
	switch name {
	case "Node":
		o.Node = small()
	case "Port":
		o.Port = small()
	case "Status":
		o.Status = small()
	case "Tags":
		o.Tags = c.texts(c.below(tags + 1))
	case "Allow":
		o.Allow = c.below(2) == 0
	case "Old":
		o.Old = c.number()
	case "Session":
		o.Session = c.number()
	case "Subs":
		for range c.below(subs + 1) {
			o.Subs = append(o.Subs, c.cmd(1+c.below(txn-1)))
		}
	default:
		*texted(o, name) = c.text()
	}
}

// texted is the field of that name, which is a text.
func texted(o *api.Cmd, name string) *string {
	switch name {
	case "Id":
		return &o.Id
	case "Name":
		return &o.Name
	case "Service":
		return &o.Service
	case "Note":
		return &o.Note
	case "Key":
		return &o.Key
	case "Value":
		return &o.Value
	case "Src":
		return &o.Src
	case "Dst":
		return &o.Dst
	}
	return nil
}

// numbered is the field of that name, which is a number of limited size.
func numbered(o *api.Cmd, name string) *int {
	switch name {
	case "Node":
		return &o.Node
	case "Port":
		return &o.Port
	case "Status":
		return &o.Status
	}
	return nil
}

// cmd is any valid command of a kind.
func (c *chance) cmd(kind int) api.Cmd {
	o := api.Cmd{Kind: kind}
	for _, name := range strings.Fields(listed(kind)) {
		c.fill(&o, name)
	}
	return o
}

// order is any valid order.
func (c *chance) order() api.Order {
	return api.Order{Client: c.below(client + 1), Seq: uint32(c.number()), C: c.cmd(1 + c.below(txn))}
}

// small is any valid order of few bytes.
func (c *chance) small() api.Order {
	for {
		if o := c.order(); len(laidOrder(o)) <= 60 {
			return o
		}
	}
}

// holds asks whether a command has something in a field.
func holds(o api.Cmd, name string) bool {
	switch name {
	case "Node":
		return o.Node != 0
	case "Port":
		return o.Port != 0
	case "Status":
		return o.Status != 0
	case "Tags":
		return len(o.Tags) != 0
	case "Allow":
		return o.Allow
	case "Old":
		return o.Old != 0
	case "Session":
		return o.Session != 0
	case "Subs":
		return len(o.Subs) != 0
	}
	return *texted(&o, name) != ""
}

// right is what the chapter says of a valid command.
func right(o api.Cmd) bool {
	if o.Kind < node || o.Kind > txn {
		return false
	}
	for _, name := range fields() {
		if !has(o.Kind, name) && holds(o, name) {
			return false
		}
	}
	for _, n := range []int{o.Node, o.Port, o.Status} {
		if n < 0 || n > wide {
			return false
		}
	}
	for _, s := range append([]string{o.Id, o.Name, o.Service, o.Note, o.Key, o.Value, o.Src, o.Dst}, o.Tags...) {
		if len(s) > long {
			return false
		}
	}
	if len(o.Tags) > tags || len(o.Subs) > subs {
		return false
	}
	for _, sub := range o.Subs {
		if sub.Kind == txn || !right(sub) {
			return false
		}
	}
	return true
}

// num is a number as layer 4 has it.
func num(n uint64) []byte {
	return field.Num(nil, n)
}

// text is a text as layer 4 has it.
func text(s string) []byte {
	return field.Text(nil, s)
}

// laid is what the chapter says of a command's encoding, also of one that is not valid.
func laid(o api.Cmd) []byte {
	b := num(uint64(o.Kind))
	for _, name := range fields() {
		if has(o.Kind, name) {
			b = append(b, laidField(o, name)...)
		}
	}
	return b
}

// laidField is what the chapter says of a field's encoding.
func laidField(o api.Cmd, name string) []byte {
	switch name {
	case "Node", "Port", "Status":
		return num(uint64(*numbered(&o, name)))
	case "Tags":
		return field.Texts(nil, o.Tags)
	case "Allow":
		return field.Flag(nil, o.Allow)
	case "Old":
		return num(o.Old)
	case "Session":
		return num(o.Session)
	case "Subs":
		b := num(uint64(len(o.Subs)))
		for _, sub := range o.Subs {
			b = append(b, laid(sub)...)
		}
		return b
	}
	return text(*texted(&o, name))
}

// laidOrder is what the chapter says of an order's encoding.
func laidOrder(o api.Order) []byte {
	return slices.Concat(num(uint64(o.Client)), num(uint64(o.Seq)), laid(o.C))
}

// reader reads by layer 4, until something or a kind is wrong.
type reader struct {
	*field.Reader
	kind api.Errno
}

// wrong is what was wrong first.
func (r *reader) wrong() api.Errno {
	if r.kind != 0 {
		return r.kind
	}
	return r.Wrong()
}

// cmd is what P20.2 says of the reading of a command.
func (r *reader) cmd(within bool) api.Cmd {
	o := api.Cmd{Kind: int(r.Num(255))}
	if r.wrong() == 0 && (o.Kind < node || o.Kind > txn || within && o.Kind == txn) {
		r.kind = api.ErrForm
	}
	for _, name := range fields() {
		if r.wrong() == 0 && has(o.Kind, name) {
			r.field(&o, name)
		}
	}
	return o
}

// field is what P20.2 says of the reading of a field.
func (r *reader) field(o *api.Cmd, name string) {
	switch name {
	case "Node", "Port", "Status":
		*numbered(o, name) = int(r.Num(wide))
	case "Tags":
		o.Tags = r.Texts(tags, long)
	case "Allow":
		o.Allow = r.Flag()
	case "Old":
		o.Old = r.Num(math.MaxUint64)
	case "Session":
		o.Session = r.Num(math.MaxUint64)
	case "Subs":
		for n := r.Num(subs); n > 0; n-- {
			o.Subs = append(o.Subs, r.cmd(true))
		}
	default:
		*texted(o, name) = r.Text(long)
	}
}

// got is what P20.2 says of Get.
func got(b []byte) (api.Order, api.Errno) {
	r := reader{Reader: field.Read(b)}
	o := api.Order{Client: int(r.Num(255))}
	o.Seq = uint32(r.Num(most))
	o.C = r.cmd(false)
	switch {
	case r.wrong() != 0:
		return api.Order{}, r.wrong()
	case r.Left() > 0:
		return api.Order{}, api.ErrRest
	case o.Client > client:
		return api.Order{}, api.ErrArg
	}
	return o, 0
}

// same asks whether two commands are the same.
func same(a, b api.Cmd) bool {
	if a.Kind != b.Kind || a.Node != b.Node || a.Port != b.Port || a.Status != b.Status {
		return false
	}
	for _, name := range strings.Fields("Id Name Service Note Key Value Src Dst") {
		if *texted(&a, name) != *texted(&b, name) {
			return false
		}
	}
	return slices.Equal(a.Tags, b.Tags) && a.Allow == b.Allow && a.Old == b.Old && a.Session == b.Session && slices.EqualFunc(a.Subs, b.Subs, same)
}

// sameOrder asks whether two orders are the same.
func sameOrder(a, b api.Order) bool {
	return a.Client == b.Client && a.Seq == b.Seq && same(a.C, b.C)
}

// put is Put of an order, which must do as the chapter's words have it.
func put(t *testing.T, o api.Order) ([]byte, api.Errno) {
	t.Helper()
	b, err := order.Put(o)
	is := right(o.C)
	if order.Right(o.C) != is {
		t.Fatalf("Right(%.300v) = %t", o.C, !is)
	}
	if !is || o.Client < 0 || o.Client > client {
		if err != api.ErrArg || len(b) != 0 {
			t.Fatalf("Put(%.300v) = %x, %d", o, b, err)
		}
		return b, err
	}
	if want := laidOrder(o); err != 0 || !bytes.Equal(b, want) {
		t.Fatalf("Put(%v) = %x, %d, want %x", o, b, err, want)
	}
	return b, err
}

// may is whether Put takes a command, which must be as the chapter's words have it.
func may(t *testing.T, c api.Cmd) bool {
	t.Helper()
	_, err := put(t, api.Order{Client: 1, Seq: 5, C: c})
	return err == 0
}

// get is Get of bytes, which must do as the chapter's words have it.
func get(t *testing.T, b []byte) (api.Order, api.Errno) {
	t.Helper()
	o, err := order.Get(b)
	want, wanted := got(b)
	if !sameOrder(o, want) || err != wanted {
		t.Fatalf("Get(%x) = %v, %d, want %v, %d", b, o, err, want, wanted)
	}
	return o, err
}

// fails tests that Get refuses bytes with an error, and answers nothing else.
func fails(t *testing.T, b []byte, want api.Errno) {
	t.Helper()
	if o, err := get(t, b); err != want || !sameOrder(o, api.Order{}) {
		t.Errorf("Get(%x) = %v, %d, want %d", b, o, err, want)
	}
}

// one is a valid command of a kind, with something in each field that it has.
func one(kind int) api.Cmd {
	o := api.Cmd{Kind: kind}
	for at, name := range fields() {
		if !has(kind, name) {
			continue
		}
		switch name {
		case "Node", "Port", "Status":
			*numbered(&o, name) = 300 + at
		case "Tags":
			o.Tags = []string{"b", "", "ab"}
		case "Allow":
			o.Allow = true
		case "Old":
			o.Old = 1 << 40
		case "Session":
			o.Session = 77
		case "Subs":
			o.Subs = []api.Cmd{one(set), one(service), one(turn)}
		default:
			*texted(&o, name) = sized(at)
		}
	}
	return o
}

// The chapter's examples.
func TestExamples(t *testing.T) {
	o := api.Order{Client: 1, Seq: 5, C: api.Cmd{Kind: api.CSet, Key: "a", Value: "1"}}
	b, err := order.Put(o)
	if want := []byte{1, 1, 1, 5, 1, 10, 1, 1, 97, 1, 1, 49}; err != 0 || !bytes.Equal(b, want) {
		t.Errorf("Put(%v) = %x, %d, want %x", o, b, err, want)
	}
	if back, err := order.Get(b); err != 0 || !sameOrder(back, o) {
		t.Errorf("Get(%x) = %v, %d", b, back, err)
	}
	if o, err := order.Get([]byte{1, 1, 1, 5, 1, 19}); err != 40 || !sameOrder(o, api.Order{}) {
		t.Errorf("Get of kind 19 = %v, %d", o, err)
	}
	if order.Right(api.Cmd{Kind: api.CDel, Key: "a", Value: "1"}) || !order.Right(api.Cmd{Kind: api.CDel, Key: "a"}) {
		t.Errorf("a CDel with a Value is valid, or one without it is not")
	}
}

// P20.1: each kind's fields, to the byte and in their order.
func TestP201Bytes(t *testing.T) {
	texted := api.Cmd{Kind: check, Node: 2, Id: "c", Service: "s", Note: "n", Status: 3}
	for _, x := range []struct {
		c    api.Cmd
		body []byte
	}{
		{api.Cmd{Kind: node}, []byte{1, 1, 0, 0}},
		{api.Cmd{Kind: node, Node: 2, Note: "a:1"}, []byte{1, 1, 1, 2, 1, 3, 97, 58, 49}},
		{api.Cmd{Kind: dropNode, Node: 300}, []byte{1, 2, 2, 1, 44}},
		{api.Cmd{Kind: service}, []byte{1, 3, 0, 0, 0, 0, 0}},
		{api.Cmd{Kind: service, Node: 1, Id: "i", Name: "nn", Tags: []string{"b", "", "a"}, Port: 8080}, []byte{1, 3, 1, 1, 2, 31, 144, 1, 1, 105, 1, 2, 110, 110, 1, 3, 1, 1, 98, 0, 1, 1, 97}},
		{api.Cmd{Kind: dropService, Node: 1, Id: "i"}, []byte{1, 4, 1, 1, 1, 1, 105}},
		{texted, []byte{1, 5, 1, 2, 1, 3, 1, 1, 99, 1, 1, 115, 1, 1, 110}},
		{api.Cmd{Kind: dropCheck, Node: wide, Id: "c"}, []byte{1, 6, 2, 255, 255, 1, 1, 99}},
		{api.Cmd{Kind: intend, Src: "a", Dst: "*", Allow: true}, []byte{1, 7, 1, 1, 97, 1, 1, 42, 1, 1}},
		{api.Cmd{Kind: turn, Src: "a", Dst: "b", Old: 256}, []byte{1, 8, 1, 1, 97, 1, 1, 98, 0, 2, 1, 0}},
		{api.Cmd{Kind: dropIntent, Src: "a", Dst: "b", Old: math.MaxUint64}, []byte{1, 9, 1, 1, 97, 1, 1, 98, 8, 255, 255, 255, 255, 255, 255, 255, 255}},
		{api.Cmd{Kind: set, Key: "k", Value: "v"}, []byte{1, 10, 1, 1, 107, 1, 1, 118}},
		{api.Cmd{Kind: cas, Key: "k", Old: 1}, []byte{1, 11, 1, 1, 107, 0, 1, 1}},
		{api.Cmd{Kind: del, Key: "k"}, []byte{1, 12, 1, 1, 107}},
		{api.Cmd{Kind: delCas, Key: "k", Old: 7}, []byte{1, 13, 1, 1, 107, 1, 7}},
		{api.Cmd{Kind: lock, Key: "k", Value: "v", Session: 9}, []byte{1, 14, 1, 1, 107, 1, 1, 118, 1, 9}},
		{api.Cmd{Kind: unlock, Key: "k", Value: "v", Session: 9}, []byte{1, 15, 1, 1, 107, 1, 1, 118, 1, 9}},
		{api.Cmd{Kind: open, Node: 7}, []byte{1, 16, 1, 7}},
		{api.Cmd{Kind: closes, Session: 1 << 32}, []byte{1, 17, 5, 1, 0, 0, 0, 0}},
		{api.Cmd{Kind: txn}, []byte{1, 18, 0}},
		{api.Cmd{Kind: txn, Subs: []api.Cmd{{Kind: open, Node: 7}, {Kind: del, Key: "k"}}}, []byte{1, 18, 1, 2, 1, 16, 1, 7, 1, 12, 1, 1, 107}},
	} {
		for _, head := range []struct {
			client int
			seq    uint32
			b      []byte
		}{
			{0, 0, []byte{0, 0}},
			{1, 5, []byte{1, 1, 1, 5}},
			{client, most, []byte{1, 15, 4, 255, 255, 255, 255}},
		} {
			o := api.Order{Client: head.client, Seq: head.seq, C: x.c}
			want := slices.Concat(head.b, x.body)
			if b, err := put(t, o); err != 0 || !bytes.Equal(b, want) {
				t.Errorf("Put(%v) = %x, %d, want %x", o, b, err, want)
			}
			if back, err := get(t, want); err != 0 || !sameOrder(back, o) {
				t.Errorf("Get(%x) = %v, %d, want %v", want, back, err, o)
			}
		}
	}
}

// P20.1: a kind is one of api's, whatever else there is.
func TestP201Kinds(t *testing.T) {
	for _, kind := range ints() {
		if is := may(t, api.Cmd{Kind: kind}); is != (kind >= 1 && kind <= 18) {
			t.Errorf("a command of kind %d alone: %t", kind, is)
		}
		for of := node; of <= txn; of++ {
			c := one(of)
			c.Kind = kind
			may(t, c)
		}
	}
}

// P20.1: of each kind each field, and each two of them, whether api lists it with the kind or not.
func TestP201Fields(t *testing.T) {
	c := chance(1)
	for kind := 0; kind <= txn+1; kind++ {
		for _, a := range fields() {
			for _, b := range fields() {
				o := api.Cmd{Kind: kind}
				for !holds(o, a) {
					c.fill(&o, a)
				}
				for !holds(o, b) {
					c.fill(&o, b)
				}
				if is := may(t, o); is != (has(kind, a) && has(kind, b)) {
					t.Errorf("a command of kind %d with %s and %s: %t", kind, a, b, is)
				}
			}
		}
	}
}

// P20.1: of each kind each field beside all that it has, if its value is the least one that is something.
func TestP201Least(t *testing.T) {
	for kind := node; kind <= txn; kind++ {
		for _, turned := range []api.Cmd{
			{Node: 1}, {Node: -1}, {Port: 1}, {Port: -1}, {Status: 1}, {Status: -1},
			{Id: "\x00"}, {Name: "\x00"}, {Service: "\x00"}, {Note: "\x00"}, {Key: "\x00"}, {Value: "\x00"}, {Src: "\x00"}, {Dst: "\x00"},
			{Tags: []string{""}}, {Allow: true}, {Old: 1}, {Session: 1}, {Subs: []api.Cmd{{Kind: 1}}}, {Subs: []api.Cmd{{}}},
			{Old: 1 << 32}, {Session: 1 << 63}, {Port: 1 << 32}, {Node: math.MinInt},
		} {
			turned.Kind = kind
			may(t, turned)
			beside := one(kind)
			for _, name := range fields() {
				if holds(turned, name) {
					take(&beside, turned, name)
				}
			}
			may(t, beside)
		}
	}
}

// take gives a command a field of another one.
func take(to *api.Cmd, from api.Cmd, name string) {
	switch name {
	case "Tags":
		to.Tags = from.Tags
	case "Allow":
		to.Allow = from.Allow
	case "Old":
		to.Old = from.Old
	case "Session":
		to.Session = from.Session
	case "Subs":
		to.Subs = from.Subs
	case "Node", "Port", "Status":
		*numbered(to, name) = *numbered(&from, name)
	default:
		*texted(to, name) = *texted(&from, name)
	}
}

// P20.1: Node, Port and Status are 0 to 65535, whatever they are said of.
func TestP201Numbers(t *testing.T) {
	for kind := node; kind <= txn; kind++ {
		for _, name := range []string{"Node", "Port", "Status"} {
			for _, n := range append(ints(), wide-1, wide, wide+1) {
				c := one(kind)
				*numbered(&c, name) = n
				if is := may(t, c); is != (n == 0 || has(kind, name) && n > 0 && n <= wide) {
					t.Errorf("kind %d with %s %d: %t", kind, name, n, is)
				}
			}
		}
	}
}

// P20.1: indexes and sessions are any numbers.
func TestP201Indexes(t *testing.T) {
	for kind := node; kind <= txn; kind++ {
		for _, n := range wides() {
			c := one(kind)
			c.Old = n
			if is := may(t, c); is != (n == 0 || has(kind, "Old")) {
				t.Errorf("kind %d with Old %d: %t", kind, n, is)
			}
			c = one(kind)
			c.Session = n
			if is := may(t, c); is != (n == 0 || has(kind, "Session")) {
				t.Errorf("kind %d with Session %d: %t", kind, n, is)
			}
		}
	}
}

// P20.1: no text has more than 80 bytes, in whichever field it is.
func TestP201Texts(t *testing.T) {
	for kind := node; kind <= txn; kind++ {
		for _, name := range strings.Fields("Id Name Service Note Key Value Src Dst") {
			for _, n := range sizes() {
				c := one(kind)
				*texted(&c, name) = sized(n)
				if is := may(t, c); is != (n == 0 || has(kind, name) && n <= long) {
					t.Errorf("kind %d with %s of %d bytes: %t", kind, name, n, is)
				}
			}
		}
	}
}

// P20.1: a text is any bytes: neither names nor keys are asked for, and its bytes count, not its letters.
func TestP201Any(t *testing.T) {
	for kind := node; kind <= txn; kind++ {
		for _, name := range strings.Fields("Id Name Service Note Key Value Src Dst") {
			if !has(kind, name) {
				continue
			}
			for _, s := range []string{"\x00", "\xff\xfe", "a b", "A", "//", "*", "\n", "ä", strings.Repeat("ä", 40)} {
				c := one(kind)
				*texted(&c, name) = s
				if !may(t, c) {
					t.Errorf("kind %d with %s %q is refused", kind, name, s)
				}
			}
			c := one(kind)
			if *texted(&c, name) = strings.Repeat("ä", 41); may(t, c) {
				t.Errorf("kind %d with %s of 41 letters of two bytes is taken", kind, name)
			}
		}
	}
}

// P20.1: at most 8 tags, which may be empty, unsorted and doubled, and none of more than 80 bytes.
func TestP201Tags(t *testing.T) {
	c := chance(2)
	for _, n := range []int{0, 1, 2, 4, 5, 7, 8, 9, 10, 16, 255, 256, 257, 264, 65536, 65544} {
		o := one(service)
		o.Tags = c.texts(n)
		if is := may(t, o); is != (n <= tags) {
			t.Errorf("%d tags: %t", n, is)
		}
		o.Tags = make([]string, n)
		if is := may(t, o); is != (n <= tags) {
			t.Errorf("%d empty tags: %t", n, is)
		}
	}
	for n := 1; n <= tags+1; n++ {
		for at := range n {
			for _, size := range sizes() {
				o := one(service)
				o.Tags = c.texts(n)
				o.Tags[at] = sized(size)
				if is := may(t, o); is != (n <= tags && size <= long) {
					t.Errorf("%d tags, of which one has %d bytes: %t", n, size, is)
				}
			}
		}
	}
	for kind := node; kind <= txn; kind++ {
		for _, l := range [][]string{nil, {}, {""}, {"a"}, {"b", "a", "b"}} {
			o := one(kind)
			o.Tags = l
			if is := may(t, o); is != (len(l) == 0 || kind == service) {
				t.Errorf("kind %d with tags %q: %t", kind, l, is)
			}
		}
	}
}

// P20.1: at most 8 commands in a transaction.
func TestP201Subs(t *testing.T) {
	c := chance(3)
	for _, n := range []int{0, 1, 2, 7, 8, 9, 10, 16, 255, 256, 257, 264, 65536, 65544} {
		o := api.Cmd{Kind: txn}
		for range n {
			o.Subs = append(o.Subs, c.cmd(1+c.below(txn-1)))
		}
		if is := may(t, o); is != (n <= subs) {
			t.Errorf("%d commands: %t", n, is)
		}
		for kind := node; kind < txn; kind++ {
			other := one(kind)
			other.Subs = o.Subs
			if is := may(t, other); is != (n == 0) {
				t.Errorf("%d commands in kind %d: %t", n, kind, is)
			}
		}
	}
}

// wrongs is commands that are not valid, or not so in a transaction.
func wrongs() []api.Cmd {
	l := []api.Cmd{{}, {Kind: -1}, {Kind: 19}, {Kind: 256}, {Kind: txn}, one(txn), {Kind: txn, Subs: []api.Cmd{{Kind: txn}}}}
	for kind := node; kind < txn; kind++ {
		for _, turned := range []func(*api.Cmd){
			func(o *api.Cmd) { o.Node = wide + 1 },
			func(o *api.Cmd) { o.Port = -1 },
			func(o *api.Cmd) { o.Status = wide + 1 },
			func(o *api.Cmd) { o.Id = sized(long + 1) },
			func(o *api.Cmd) { o.Name = sized(long + 1) },
			func(o *api.Cmd) { o.Service = sized(long + 1) },
			func(o *api.Cmd) { o.Note = sized(long + 1) },
			func(o *api.Cmd) { o.Key = sized(long + 1) },
			func(o *api.Cmd) { o.Value = sized(long + 1) },
			func(o *api.Cmd) { o.Src = sized(long + 1) },
			func(o *api.Cmd) { o.Dst = sized(long + 1) },
			func(o *api.Cmd) { o.Tags = make([]string, tags+1) },
			func(o *api.Cmd) { o.Tags = []string{"", sized(long + 1)} },
			func(o *api.Cmd) { o.Subs = []api.Cmd{{Kind: del}} },
			func(o *api.Cmd) { o.Kind += 18 },
			func(o *api.Cmd) { o.Kind += 256 },
			func(o *api.Cmd) { o.Kind = -o.Kind },
		} {
			o := one(kind)
			turned(&o)
			l = append(l, o)
		}
	}
	return l
}

// P20.1: each command of a transaction must be valid and no transaction, wherever it stands.
func TestP201Wrong(t *testing.T) {
	c := chance(4)
	for _, wrong := range wrongs() {
		if is := may(t, wrong); is && wrong.Kind != txn {
			t.Errorf("%v is taken", wrong)
		}
		for n := 1; n <= subs; n++ {
			for at := range n {
				o := api.Cmd{Kind: txn}
				for range n {
					o.Subs = append(o.Subs, c.cmd(1+c.below(txn-1)))
				}
				if !may(t, o) {
					t.Fatalf("%v is refused", o)
				}
				if o.Subs[at] = wrong; may(t, o) {
					t.Errorf("%v is taken", o)
				}
			}
		}
	}
}

// P20.1: transactions within transactions are refused however deep they go, also if they go round.
func TestP201Deep(t *testing.T) {
	deep := api.Cmd{Kind: txn}
	for range 1 << 16 {
		deep = api.Cmd{Kind: txn, Subs: []api.Cmd{deep}}
	}
	round := api.Cmd{Kind: txn, Subs: make([]api.Cmd, subs)}
	for i := range round.Subs {
		round.Subs[i] = round
	}
	within := api.Cmd{Kind: set, Subs: make([]api.Cmd, 1)}
	within.Subs[0] = within
	for _, c := range []api.Cmd{deep, round, within, {Kind: txn, Subs: []api.Cmd{within}}, {Kind: txn, Subs: make([]api.Cmd, 1<<16)}} {
		if order.Right(c) {
			t.Errorf("a command of kind %d that goes deep is taken", c.Kind)
		}
		if b, err := order.Put(api.Order{C: c}); err != api.ErrArg || len(b) != 0 {
			t.Errorf("Put of a command of kind %d that goes deep: %d", c.Kind, err)
		}
	}
}

// P20.1: clients are 0 to 15, whatever they order; a number there is any.
func TestP201Clients(t *testing.T) {
	for _, n := range ints() {
		for kind := 0; kind <= txn+1; kind++ {
			c := api.Cmd{Kind: kind}
			_, err := put(t, api.Order{Client: n, Seq: 9, C: c})
			if is := n >= 0 && n <= client && kind >= node && kind <= txn; is != (err == 0) {
				t.Errorf("Put of client %d, kind %d: %d", n, kind, err)
			}
			if order.Right(c) != (kind >= node && kind <= txn) {
				t.Errorf("Right of kind %d", kind)
			}
		}
	}
	for _, n := range wides() {
		if _, err := put(t, api.Order{Client: 3, Seq: uint32(n), C: one(del)}); err != 0 {
			t.Errorf("Put of order %d: %d", uint32(n), err)
		}
	}
}

// P20.2: what is wrong with bytes, item by item.
func TestP202Errors(t *testing.T) {
	for _, x := range []struct {
		b   []byte
		err api.Errno
	}{
		{nil, api.ErrEnd},
		{[]byte{1}, api.ErrEnd},
		{[]byte{9}, api.ErrForm},
		{[]byte{1, 0}, api.ErrForm},
		{[]byte{2, 1, 0}, api.ErrLong},
		{[]byte{1, 255}, api.ErrEnd},
		{[]byte{0, 5, 1, 0, 0, 0, 0}, api.ErrLong},
		{[]byte{0, 5, 1, 0, 0, 0}, api.ErrEnd},
		{[]byte{0, 1, 0}, api.ErrForm},
		{[]byte{0, 0}, api.ErrEnd},
		{[]byte{0, 0, 0}, api.ErrForm},
		{[]byte{0, 0, 1, 0}, api.ErrForm},
		{[]byte{0, 0, 1, 19}, api.ErrForm},
		{[]byte{0, 0, 1, 255}, api.ErrForm},
		{[]byte{0, 0, 2, 1, 1}, api.ErrLong},
		{[]byte{0, 0, 1, 2}, api.ErrEnd},
		{[]byte{0, 0, 1, 2, 2, 255, 255}, api.OK},
		{[]byte{0, 0, 1, 2, 3, 1, 0, 0}, api.ErrLong},
		{[]byte{0, 0, 1, 2, 0, 0}, api.ErrRest},
		{[]byte{0, 0, 1, 7, 0, 0, 0}, api.OK},
		{[]byte{0, 0, 1, 7, 0, 0, 1, 1}, api.OK},
		{[]byte{0, 0, 1, 7, 0, 0, 1, 2}, api.ErrForm},
		{[]byte{0, 0, 1, 7, 0, 0, 2, 1, 1}, api.ErrForm},
		{[]byte{0, 0, 1, 7, 0, 0}, api.ErrEnd},
		{[]byte{0, 0, 1, 12, 1, 80}, api.ErrEnd},
		{[]byte{0, 0, 1, 12, 1, 81}, api.ErrLong},
		{[]byte{0, 0, 1, 12, 2, 1, 0}, api.ErrLong},
		{[]byte{0, 0, 1, 12, 8, 255, 255, 255, 255, 255, 255, 255, 255}, api.ErrLong},
		{[]byte{0, 0, 1, 12, 1, 2, 97}, api.ErrEnd},
		{[]byte{0, 0, 1, 12, 1, 1, 97}, api.OK},
		{[]byte{0, 0, 1, 13, 0, 8, 255, 255, 255, 255, 255, 255, 255, 255}, api.OK},
		{[]byte{0, 0, 1, 13, 0, 9, 1, 0, 0, 0, 0, 0, 0, 0, 0}, api.ErrForm},
		{[]byte{0, 0, 1, 17, 8, 128, 0, 0, 0, 0, 0, 0, 0}, api.OK},
		{[]byte{0, 0, 1, 3, 0, 0, 0, 0, 1, 8, 0, 0, 0, 0, 0, 0, 0, 0}, api.OK},
		{[]byte{0, 0, 1, 3, 0, 0, 0, 0, 1, 9}, api.ErrLong},
		{[]byte{0, 0, 1, 3, 0, 0, 0, 0, 1, 1, 1, 81}, api.ErrLong},
		{[]byte{0, 0, 1, 3, 0, 0, 0, 0, 1, 2, 0}, api.ErrEnd},
		{[]byte{0, 0, 1, 18, 0}, api.OK},
		{[]byte{0, 0, 1, 18, 1, 9}, api.ErrLong},
		{[]byte{0, 0, 1, 18, 1, 8}, api.ErrEnd},
		{[]byte{0, 0, 1, 18, 1, 1, 0}, api.ErrForm},
		{[]byte{0, 0, 1, 18, 1, 1, 1, 18}, api.ErrForm},
		{[]byte{0, 0, 1, 18, 1, 1, 1, 18, 0}, api.ErrForm},
		{[]byte{0, 0, 1, 18, 1, 1, 1, 19}, api.ErrForm},
		{[]byte{0, 0, 1, 18, 1, 1, 2, 1, 0}, api.ErrLong},
		{[]byte{0, 0, 1, 18, 1, 1, 1, 16, 0}, api.OK},
		{[]byte{0, 0, 1, 18, 1, 1, 1, 16, 3, 1, 0, 0}, api.ErrLong},
		{[]byte{0, 0, 1, 18, 1, 2, 1, 16, 0}, api.ErrEnd},
		{[]byte{0, 0, 1, 18, 1, 1, 1, 16, 0, 0}, api.ErrRest},
		{[]byte{1, 16, 0, 1, 16, 0}, api.ErrArg},
		{[]byte{1, 255, 0, 1, 16, 0}, api.ErrArg},
		{[]byte{2, 1, 0, 0, 1, 16, 0}, api.ErrLong},
	} {
		if o, err := get(t, x.b); err != x.err || err != 0 && !sameOrder(o, api.Order{}) {
			t.Errorf("Get(%x) = %v, %d, want %d", x.b, o, err, x.err)
		}
	}
}

// P20.2: of several errors the first in reading counts, then what is left, and last the client.
func TestP202Order(t *testing.T) {
	for _, x := range []struct {
		b   []byte
		err api.Errno
	}{
		{[]byte{2, 1, 0, 9}, api.ErrLong},
		{[]byte{1, 16, 9}, api.ErrForm},
		{[]byte{1, 16, 5, 1, 0, 0, 0, 0, 1, 19}, api.ErrLong},
		{[]byte{1, 16, 0, 1, 19}, api.ErrForm},
		{[]byte{1, 16, 0, 1, 19, 9, 9}, api.ErrForm},
		{[]byte{1, 16, 0, 1, 16}, api.ErrEnd},
		{[]byte{1, 16, 0, 1, 16, 0, 9}, api.ErrRest},
		{[]byte{1, 16, 0, 1, 16, 3, 1, 0, 0, 9}, api.ErrLong},
		{[]byte{0, 0, 1, 1, 3, 1, 0, 0, 9}, api.ErrLong},
		{[]byte{0, 0, 1, 1, 9, 1, 81}, api.ErrForm},
		{[]byte{0, 0, 1, 10, 1, 81, 9}, api.ErrLong},
		{[]byte{0, 0, 1, 10, 9, 1, 81}, api.ErrForm},
		{[]byte{0, 0, 1, 8, 0, 0, 1, 2, 9}, api.ErrForm},
		{[]byte{0, 0, 1, 18, 1, 9, 1, 18}, api.ErrLong},
		{[]byte{0, 0, 1, 18, 1, 2, 1, 18, 9}, api.ErrForm},
		{[]byte{0, 0, 1, 18, 1, 2, 1, 16, 3, 1, 0, 0, 1, 18}, api.ErrLong},
		{[]byte{0, 0, 1, 18, 1, 2, 1, 16, 0, 1, 18, 0, 0}, api.ErrForm},
		{[]byte{1, 99, 0, 1, 18, 1, 1, 1, 18}, api.ErrForm},
		{[]byte{1, 99, 0, 1, 18, 1, 1, 1, 16, 0, 5}, api.ErrRest},
		{[]byte{1, 99, 0, 1, 18, 1, 1, 1, 16, 0}, api.ErrArg},
	} {
		fails(t, x.b, x.err)
	}
}

// P20.2: each number as a client, as a kind and as the kind of a command within a transaction.
func TestP202Numbers(t *testing.T) {
	for n := range uint64(1000) {
		want := api.OK
		switch {
		case n > 255:
			want = api.ErrLong
		case n > client:
			want = api.ErrArg
		}
		if o, err := get(t, slices.Concat(num(n), []byte{1, 5, 1, 16, 1, 7})); err != want || err == 0 && o.Client != int(n) {
			t.Errorf("Get of client %d = %v, %d, want %d", n, o, err, want)
		}
		for _, tail := range [][]byte{nil, {9}, {0, 0, 0, 0, 0}} {
			if n > 255 {
				fails(t, slices.Concat([]byte{0, 0}, num(n), tail), api.ErrLong)
				fails(t, slices.Concat([]byte{0, 0, 1, 18, 1, 1}, num(n), tail), api.ErrLong)
			} else if n == 0 || n > txn {
				fails(t, slices.Concat([]byte{0, 0}, num(n), tail), api.ErrForm)
				fails(t, slices.Concat([]byte{0, 0, 1, 18, 1, 1}, num(n), tail), api.ErrForm)
			} else {
				get(t, slices.Concat([]byte{0, 0}, num(n), tail))
				get(t, slices.Concat([]byte{0, 0, 1, 18, 1, 1}, num(n), tail))
			}
		}
	}
	for _, n := range wides() {
		get(t, slices.Concat(num(n), []byte{0, 1, 16, 0}))
		get(t, slices.Concat([]byte{0}, num(n), []byte{1, 16, 0}))
		get(t, slices.Concat([]byte{0, 0}, num(n), []byte{0, 0, 0}))
	}
}

// P20.2: each field of each kind, in a transaction and without one, with each number or length around its bound.
func TestP202Fields(t *testing.T) {
	c := chance(5)
	for kind := node; kind <= txn; kind++ {
		for _, name := range strings.Fields(listed(kind)) {
			for _, n := range append(wides(), 8, 9, long-1, long, long+1, 255, 256, wide-1, wide, wide+1) {
				o := one(kind)
				// A mark takes the place of the field, since no field that may be has all its bytes.
				mark := []byte{200, 201, 202}
				b := []byte{1, 3, 1, 1}
				if c.below(2) == 0 && kind != txn {
					b = append(b, 1, 18, 1, 1)
				}
				b = append(b, num(uint64(kind))...)
				for _, other := range fields() {
					if other == name {
						b = append(b, mark...)
					} else if has(kind, other) {
						b = append(b, laidField(o, other)...)
					}
				}
				get(t, bytes.Replace(b, mark, num(n), 1))
				if texted(&o, name) != nil && n <= 1<<16 {
					get(t, bytes.Replace(b, mark, text(sized(int(n))), 1))
				}
			}
		}
	}
}

// P20.2: any few bytes of those that count, behind the beginnings of orders.
func TestP202Short(t *testing.T) {
	some := []byte{0, 1, 2, 3, 8, 9, 16, 18, 81, 255}
	heads := [][]byte{nil, {0, 0}, {1, 16, 0}, {0, 0, 1, 3, 0, 0}, {0, 0, 1, 8, 0}, {0, 0, 1, 18}, {0, 0, 1, 18, 1, 2}, {1, 16, 0, 1, 18, 1, 1}, {0, 0, 1, 18, 1, 2, 1, 16, 0}}
	for n := range 5 {
		total := 1
		for range n {
			total *= len(some)
		}
		for x := range total {
			var tail []byte
			for range n {
				tail = append(tail, some[x%len(some)])
				x /= len(some)
			}
			for _, head := range heads {
				get(t, slices.Concat(head, tail))
			}
		}
	}
}

// P20.2: each cut of an order ends too early, whatever is behind it is left, and each byte of it may become any other.
func TestP202Turned(t *testing.T) {
	c := chance(6)
	for range 25 {
		b := laidOrder(c.small())
		for end := range b {
			fails(t, b[:end], api.ErrEnd)
		}
		for x := range 256 {
			fails(t, append(slices.Clone(b), byte(x)), api.ErrRest)
			for at := range b {
				turned := slices.Clone(b)
				turned[at] = byte(x)
				get(t, turned)
				get(t, slices.Insert(slices.Clone(b), at, byte(x)))
			}
		}
		for at := range b {
			get(t, slices.Delete(slices.Clone(b), at, at+1))
		}
	}
}

// P20.2: the fields of an order of one kind as those of each other one.
func TestP202OtherKinds(t *testing.T) {
	c := chance(7)
	for range 3000 {
		o := c.order()
		b := laidOrder(o)
		at := len(num(uint64(o.Client))) + len(num(uint64(o.Seq))) + 1
		for kind := range 21 {
			b[at] = byte(kind)
			get(t, b)
		}
	}
}

// P20.2: each number of tags and of commands that is told, with each number of them that is there.
func TestP202Counts(t *testing.T) {
	c := chance(8)
	for told := range 20 {
		for there := range 20 {
			want := api.OK
			switch {
			case told > 8:
				want = api.ErrLong
			case told > there:
				want = api.ErrEnd
			case told < there:
				want = api.ErrRest
			}
			b := slices.Concat([]byte{0, 0, 1, 3, 0, 0, 0, 0}, num(uint64(told)))
			for _, s := range c.texts(there) {
				b = append(b, text(s)...)
			}
			if o, err := get(t, b); err != want || err == 0 && len(o.C.Tags) != told {
				t.Errorf("Get of %d tags, told as %d: %v, %d", there, told, o, err)
			}
			b = slices.Concat([]byte{0, 0, 1, 18}, num(uint64(told)))
			for range there {
				b = append(b, laid(c.cmd(1+c.below(txn-1)))...)
			}
			if o, err := get(t, b); err != want || err == 0 && len(o.C.Subs) != told {
				t.Errorf("Get of %d commands, told as %d: %v, %d", there, told, o, err)
			}
		}
	}
}

// P20.2: a transaction is none within a transaction, wherever it stands and whatever it has; nor is a command that is none.
func TestP202Within(t *testing.T) {
	c := chance(9)
	for n := 1; n <= subs; n++ {
		for at := range n {
			for _, wrong := range [][]byte{{1, 18}, {1, 18, 0}, laid(one(txn)), {0}, {1, 19, 0}, {1, 200}} {
				b := slices.Concat([]byte{1, 2, 1, 3, 1, 18}, num(uint64(n)))
				for i := range n {
					if i == at {
						b = append(b, wrong...)
					} else {
						b = append(b, laid(c.cmd(1+c.below(txn-1)))...)
					}
				}
				fails(t, b, api.ErrForm)
			}
		}
	}
	fails(t, bytes.Repeat([]byte{1, 18, 1, 1}, 1<<16), api.ErrForm)
	fails(t, slices.Concat([]byte{0, 0}, bytes.Repeat([]byte{1, 18, 1, 1}, 1<<16)), api.ErrForm)
}

// P20.2: many bytes are read as few are.
func TestP202Long(t *testing.T) {
	for _, n := range []int{1000, 1 << 16, 1 << 20} {
		for kind := node; kind <= txn; kind++ {
			b := laidOrder(api.Order{Client: 99, Seq: 1, C: one(kind)})
			fails(t, append(b, make([]byte, n)...), api.ErrRest)
		}
		fails(t, bytes.Repeat([]byte{9}, n), api.ErrForm)
		fails(t, make([]byte, n), api.ErrForm)
	}
}

// P20.3: each order is read back as it was laid.
func TestP203Back(t *testing.T) {
	c := chance(10)
	for range 20000 {
		o := c.order()
		b, err := put(t, o)
		back, wrong := get(t, b)
		if err != 0 || wrong != 0 || !sameOrder(back, o) {
			t.Fatalf("Get undoes Put of %v: %v, %d, %d", o, back, err, wrong)
		}
	}
}

// P20.3: the greatest orders that may be.
func TestP203Greatest(t *testing.T) {
	for kind := node; kind < txn; kind++ {
		c := api.Cmd{Kind: kind}
		for _, name := range strings.Fields(listed(kind)) {
			greatest(&c, name)
		}
		for _, o := range []api.Cmd{c, {Kind: txn, Subs: slices.Repeat([]api.Cmd{c}, subs)}} {
			b, err := put(t, api.Order{Client: client, Seq: most, C: o})
			back, wrong := get(t, b)
			if err != 0 || wrong != 0 || !sameOrder(back, api.Order{Client: client, Seq: most, C: o}) {
				t.Errorf("Get undoes Put of the greatest of kind %d: %d, %d", kind, err, wrong)
			}
		}
	}
}

// greatest gives a field the greatest value that may be there.
func greatest(c *api.Cmd, name string) {
	switch name {
	case "Node", "Port", "Status":
		*numbered(c, name) = wide
	case "Tags":
		c.Tags = slices.Repeat([]string{sized(long)}, tags)
	case "Allow":
		c.Allow = true
	case "Old":
		c.Old = math.MaxUint64
	case "Session":
		c.Session = math.MaxUint64
	default:
		*texted(c, name) = sized(long)
	}
}

// P20.3: what Get accepts is what Put makes of it, whatever bytes an order has become.
func TestP203Accepted(t *testing.T) {
	c := chance(11)
	accepted := 0
	for range 60000 {
		b := laidOrder(c.small())
		for range 1 + c.below(3) {
			at := c.below(len(b))
			switch c.below(4) {
			case 0:
				b[at] = byte(c.below(256))
			case 1:
				b[at] = byte(c.below(20))
			case 2:
				b = slices.Insert(b, at, byte(c.below(4)))
			case 3:
				b[at]++
			}
		}
		o, err := get(t, b)
		if err != 0 {
			continue
		}
		accepted++
		if back, err := put(t, o); err != 0 || !bytes.Equal(back, b) {
			t.Fatalf("Put of what Get(%x) accepts = %x, %d", b, back, err)
		}
	}
	if accepted < 10000 {
		t.Errorf("only %d orders were accepted", accepted)
	}
}

// P20.3: no two orders have the same bytes.
func TestP203Apart(t *testing.T) {
	c := chance(12)
	seen := map[string]api.Order{}
	for range 20000 {
		o := c.order()
		b, _ := put(t, o)
		if before, is := seen[string(b)]; is && !sameOrder(before, o) {
			t.Fatalf("%v and %v have the bytes %x", before, o, b)
		}
		seen[string(b)] = o
	}
}

// R3: what is handed in is not changed, nor what lies behind it.
func TestGiven(t *testing.T) {
	c := chance(13)
	for range 3000 {
		l, s := c.texts(12), []api.Cmd{}
		for range 12 {
			s = append(s, c.cmd(1+c.below(txn-1)))
		}
		texts, cmds := slices.Clone(l), slices.Clone(s)
		for _, o := range []api.Cmd{{Kind: service, Tags: l[:c.below(9)]}, {Kind: txn, Subs: s[:c.below(9)]}} {
			b, err := put(t, api.Order{Client: 2, C: o})
			if err != 0 || !slices.Equal(l, texts) || !slices.EqualFunc(s, cmds, same) {
				t.Fatalf("Put(%v), %d: the tags became %q, the commands %v", o, err, l, s)
			}
			b = append(b, 1, 2, 3)
			kept := slices.Clone(b)
			get(t, b[:len(b)-3])
			if !bytes.Equal(b, kept) {
				t.Fatalf("Get: the bytes became %x", b)
			}
		}
	}
}

// R3: what is handed out shares memory neither with what was handed in nor with anything else that is handed out.
func TestHandedOut(t *testing.T) {
	o := api.Order{Client: 4, Seq: 6, C: api.Cmd{Kind: txn, Subs: []api.Cmd{one(service), one(service)}}}
	kept := laidOrder(o)
	a, _ := order.Put(o)
	b, _ := order.Put(o)
	clear(append(a, 1, 2)[:cap(a)])
	if !bytes.Equal(b, kept) {
		t.Errorf("Put hands out bytes twice: %x", b)
	}
	x, _ := order.Get(b)
	y, _ := order.Get(b)
	clear(b)
	for _, sub := range []*api.Cmd{&x.C.Subs[0], &y.C.Subs[1]} {
		clear(append(sub.Tags, "z")[:cap(sub.Tags)])
	}
	clear(append(x.C.Subs, api.Cmd{Kind: del})[:cap(x.C.Subs)])
	if !slices.Equal(y.C.Subs[0].Tags, one(service).Tags) || !same(o.C.Subs[0], one(service)) || y.C.Subs[1].Kind != service {
		t.Errorf("Get hands out commands or tags twice: %v", y)
	}
}

// R3: a nil list and an empty one are the same.
func TestEmpty(t *testing.T) {
	for kind := node; kind <= txn; kind++ {
		without := one(kind)
		without.Tags, without.Subs = nil, nil
		with := without
		with.Tags, with.Subs = []string{}, []api.Cmd{}
		a, err := put(t, api.Order{C: without})
		b, wrong := put(t, api.Order{C: with})
		if err != 0 || wrong != 0 || !bytes.Equal(a, b) {
			t.Errorf("Put(%v) = %x, %d, and with empty lists %x, %d", without, a, err, b, wrong)
		}
	}
	if _, err := order.Get([]byte{}); err != api.ErrEnd {
		t.Errorf("Get of no bytes: %d", err)
	}
}

// R4: an answer depends on its argument alone, whatever was asked before.
func TestResults(t *testing.T) {
	c := chance(14)
	for range 3000 {
		o := c.order()
		want := laidOrder(o)
		order.Get(append(laidOrder(c.order()), 1))
		order.Put(api.Order{Client: 16, C: o.C})
		order.Get([]byte{0, 0, 1, 18, 1, 1, 1, 18})
		b, err := order.Put(o)
		again, wrong := order.Put(o)
		if err != 0 || wrong != 0 || !bytes.Equal(b, want) || !bytes.Equal(again, want) {
			t.Fatalf("Put(%v) = %x, %d, then %x, %d", o, b, err, again, wrong)
		}
	}
}

// The errors' numbers.
func TestErrors(t *testing.T) {
	for _, x := range []struct{ is, want api.Errno }{{api.OK, 0}, {api.ErrArg, 2}, {api.ErrLong, 3}, {api.ErrEnd, 30}, {api.ErrForm, 40}, {api.ErrRest, 41}} {
		if x.is != x.want {
			t.Errorf("an error is %d, want %d", x.is, x.want)
		}
	}
}
