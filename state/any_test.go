package state_test

import (
	"math"
	"strings"
	"testing"

	"sodality/api"
	"sodality/state"
)

// The errors' numbers, by the table of the document, and the greatest index.
const (
	errNil   = 1
	errArg   = 2
	errLong  = 3
	errNone  = 4
	errFull  = 5
	errName  = 10
	errTwice = 20
	errCas   = 21
	errHeld  = 22
	errStale = 23
	greatest = math.MaxUint64
)

// The kinds of commands but the transaction, from CNode to CClose.
const kinds = 17

// ints is numbers of any kind: those around the limits of clients, rows and nodes, and where integers of any width end.
func ints() []int {
	l := []int{math.MinInt, math.MinInt + 1, math.MinInt32, math.MaxInt32, math.MaxInt - 1, math.MaxInt, -256, 255, 256, 271, 1 << 32, 1<<32 + 3, -1 << 32, 1 << 62, 65535, 65536}
	for n := -18; n <= 70; n++ {
		l = append(l, n)
	}
	return l
}

// seqs is numbers of orders, rising: those around each power of two.
func seqs() []uint32 {
	l := []uint32{0, 1}
	for bit := 1; bit < 32; bit++ {
		for n := uint32(1)<<bit - 1; n <= 1<<bit+1; n++ {
			if n > l[len(l)-1] {
				l = append(l, n)
			}
		}
	}
	return append(l, math.MaxUint32-1, math.MaxUint32)
}

// sized is a text of a length.
func sized(n int) string {
	return strings.Repeat("x", n)
}

// chance is numbers that follow from a seed.
type chance uint64

// below is the next number, from 0 to n-1.
func (c *chance) below(n int) int {
	*c = *c*6364136223846793005 + 1442695040888963407
	return int(uint64(*c)>>33) % n
}

// seldom is true once in a while.
func (c *chance) seldom() bool {
	return c.below(25) == 0
}

// one is any of some.
func one[T any](c *chance, l ...T) T {
	return l[c.below(len(l))]
}

// node is any node, mostly one of a few that may be.
func (c *chance) node() int {
	if c.seldom() {
		return one(c, ints()...)
	}
	return one(c, 0, 1, 7)
}

// name is any text, mostly one of a few names.
func (c *chance) name() string {
	if c.seldom() {
		return one(c, "", "-", "A", "a-", "a/b", "*", "\x00", sized(24), sized(25), sized(80), sized(81))
	}
	return one(c, "a", "web-1", "db")
}

// pattern is any text, mostly a name or the star.
func (c *chance) pattern() string {
	if c.below(3) == 0 {
		return "*"
	}
	return c.name()
}

// key is any text, mostly one of a few keys.
func (c *chance) key() string {
	if c.seldom() {
		return one(c, "", "/", "a/", "a//b", "A", "\xff", sized(32), sized(33), sized(80), sized(81))
	}
	return one(c, "a", "a/b", "b", "k_.-")
}

// text is any text, mostly one that may be a note or a value.
func (c *chance) text() string {
	if c.seldom() {
		return one(c, sized(32), sized(33), sized(64), sized(65), sized(80), sized(81))
	}
	return one(c, "", "x", "10.0.0.1")
}

// tags is any tags, mostly ones that may be.
func (c *chance) tags() []string {
	if c.seldom() {
		return one(c, []string{"b", "a"}, []string{""}, []string{"a", "b", "c", "d", "e"}, []string{sized(81)}, make([]string, 9))
	}
	return one(c, nil, []string{}, []string{"a"}, []string{"a", "b", "c", "d"})
}

// index is any index: mostly the next one, or one that a catalog has somewhere.
func (c *chance) index(m *told) uint64 {
	l := []uint64{0, 0, 1, m.d.Index, m.d.Index + 1, m.d.Index + 1}
	for _, e := range m.d.Entries {
		l = append(l, e.Index, e.Session)
	}
	for _, i := range m.d.Intentions {
		l = append(l, i.Index)
	}
	for _, s := range m.d.Sessions {
		l = append(l, s.Id)
	}
	if c.seldom() {
		l = []uint64{2, greatest, greatest - 1, 1 << 63, 1 << 32}
	}
	return one(c, l...)
}

// cmd is any command of a kind.
func (c *chance) cmd(kind int, m *told) api.Cmd {
	x := api.Cmd{Kind: kind}
	switch kind {
	case api.CNode:
		x.Node, x.Note = c.node(), c.text()
	case api.CDropNode, api.COpen:
		x.Node = c.node()
	case api.CService:
		x.Node, x.Id, x.Name, x.Tags, x.Port = c.node(), c.name(), c.name(), c.tags(), one(c, 0, 80, 65535)
	case api.CDropService, api.CDropCheck:
		x.Node, x.Id = c.node(), c.name()
	case api.CCheck:
		x.Node, x.Id, x.Service, x.Note, x.Status = c.node(), c.name(), one(c, "", c.name()), c.text(), c.below(4)
	case api.CIntend, api.CTurn:
		x.Src, x.Dst, x.Allow = c.pattern(), c.pattern(), c.below(2) == 0
	case api.CDropIntent:
		x.Src, x.Dst = c.pattern(), c.pattern()
	case api.CSet, api.CCas, api.CLock, api.CUnlock:
		x.Key, x.Value = c.key(), c.text()
	case api.CDel, api.CDelCas:
		x.Key = c.key()
	case api.CTxn:
		for range c.below(10) {
			x.Subs = append(x.Subs, c.cmd(1+c.below(kinds), m))
		}
	}
	switch kind {
	case api.CTurn, api.CDropIntent, api.CCas, api.CDelCas:
		x.Old = c.old(x, m)
	case api.CLock, api.CUnlock, api.CClose:
		x.Session = c.session(x, m)
	}
	return x
}

// old is any index, often the one at which what a command is about was turned last.
func (c *chance) old(x api.Cmd, m *told) uint64 {
	entry, intention := m.entry(x.Key), m.intention(x.Src, x.Dst)
	switch {
	case c.below(2) == 0:
		return c.index(m)
	case entry >= 0:
		return m.d.Entries[entry].Index
	case intention >= 0:
		return m.d.Intentions[intention].Index
	}
	return 0
}

// session is any index, often the one of a session, or of the one that holds what a command is about.
func (c *chance) session(x api.Cmd, m *told) uint64 {
	entry := m.entry(x.Key)
	switch {
	case c.below(3) == 0:
		return c.index(m)
	case entry >= 0 && c.below(2) == 0:
		return m.d.Entries[entry].Session
	case len(m.d.Sessions) > 0:
		return one(c, m.d.Sessions...).Id
	}
	return 1
}

// any is any command: those that lay something are more often than those that take it away.
func (c *chance) any(m *told) api.Cmd {
	switch c.below(8) {
	case 0, 1, 2:
		return c.cmd(1+c.below(kinds), m)
	case 3:
		return c.cmd(api.CTxn, m)
	case 4:
		return c.small(m)
	}
	return c.cmd(one(c, api.CNode, api.CService, api.CCheck, api.CIntend, api.CSet, api.CLock, api.COpen), m)
}

// small is a transaction that is mostly done.
func (c *chance) small(m *told) api.Cmd {
	x := api.Cmd{Kind: api.CTxn}
	for range c.below(4) {
		x.Subs = append(x.Subs, c.cmd(one(c, api.CNode, api.CSet, api.COpen, api.CLock), m))
	}
	return x
}

// order is any order: mostly the next one of one of a few clients.
func (c *chance) order(m *told) api.Order {
	o := api.Order{Client: one(c, 0, 1, 9, 15), C: c.any(m)}
	if c.seldom() {
		o.Client = one(c, ints()...)
	}
	if place := where(m.d.Seen, func(x api.Seen) bool { return x.Client == o.Client }); place >= 0 {
		o.Seq = m.d.Seen[place].Seq + uint32(one(c, 0, 1, 1, 1, 1, 2, 3, -1))
	}
	return o
}

// onNode is a command of a node's.
func onNode(kind, node int, id string) api.Cmd {
	return api.Cmd{Kind: kind, Node: node, Id: id}
}

// laysService is a service.
func laysService(node int, id string) api.Cmd {
	return api.Cmd{Kind: api.CService, Node: node, Id: id, Name: "web", Tags: []string{"a", "b"}, Port: 80}
}

// laysCheck is a check.
func laysCheck(node int, id, service string, status int) api.Cmd {
	return api.Cmd{Kind: api.CCheck, Node: node, Id: id, Service: service, Status: status}
}

// intends is an intention.
func intends(kind int, src, dst string, allow bool, old uint64) api.Cmd {
	return api.Cmd{Kind: kind, Src: src, Dst: dst, Allow: allow, Old: old}
}

// onKey is a command of a key's.
func onKey(kind int, key, value string, old uint64) api.Cmd {
	return api.Cmd{Kind: kind, Key: key, Value: value, Old: old}
}

// locks is a lock or an unlock of a key.
func locks(kind int, key string, session uint64) api.Cmd {
	return api.Cmd{Kind: kind, Key: key, Value: "v", Session: session}
}

// shuts is that a session is closed.
func shuts(session uint64) api.Cmd {
	return api.Cmd{Kind: api.CClose, Session: session}
}

// txn is a transaction.
func txn(l ...api.Cmd) api.Cmd {
	return api.Cmd{Kind: api.CTxn, Subs: l}
}

// rows is the commands that lay the rows of a sample, of which the sessions are 14, 15, 16 and 17.
func rows() []api.Cmd {
	return []api.Cmd{
		{Kind: api.CNode, Node: 0, Note: "x"},
		{Kind: api.CNode, Node: 1, Note: "10.0.0.1"},
		{Kind: api.CNode, Node: 7},
		laysService(1, "web-1"), laysService(1, "web-2"), laysService(7, "web-1"),
		laysCheck(1, "c", "web-1", api.Critical), laysCheck(1, "d", "", api.Warning), laysCheck(7, "c", "", api.Maint),
		intends(api.CIntend, "web", "db", true, 0), intends(api.CIntend, "*", "db", false, 0), intends(api.CIntend, "web", "*", true, 0),
		onKey(api.CSet, "a", "1", 0),
		onNode(api.COpen, 1, ""), onNode(api.COpen, 7, ""), onNode(api.COpen, 1, ""), onNode(api.COpen, 7, ""),
		locks(api.CLock, "k/1", 16), locks(api.CLock, "k/2", 15), locks(api.CLock, "k/3", 14), locks(api.CLock, "k/0", 14), locks(api.CLock, "a", 16),
	}
}

// sample is a state with some rows of each table, and with last orders of three clients.
func sample(t *testing.T, most int) (*state.State, *told) {
	t.Helper()
	s, m := both(t, most)
	ok(t, s, m, rows()...)
	for _, o := range []api.Order{{Client: 15, Seq: 9, C: txn()}, {Client: 3, C: txn()}} {
		if r, again := apply(t, s, m, o); r.Err != api.OK || again {
			t.Fatalf("Apply(%+v) = %+v, %t", o, r, again)
		}
	}
	return s, m
}

// values is some values of a field of commands, by its name: those that fit the rows of the sample, those around each bound, and those that may not be.
func values(field string) []func(*api.Cmd) {
	switch field {
	case "Node":
		return each(func(c *api.Cmd, n int) { c.Node = n }, 0, 1, 2, 7, 8, 10, 17, 65535)
	case "Note":
		return each(func(c *api.Cmd, s string) { c.Note = s }, "", "y", sized(32), sized(33), sized(80))
	case "Id":
		return each(func(c *api.Cmd, s string) { c.Id = s }, "web-1", "web-2", "c", "d", "new", "", "A", "1/c", sized(25))
	case "Name":
		return each(func(c *api.Cmd, s string) { c.Name = s }, "db", "", "B")
	case "Tags":
		return each(func(c *api.Cmd, l []string) { c.Tags = l }, nil, []string{"a"}, []string{"b", "a"}, []string{"1", "2", "3", "4", "5"})
	case "Port":
		return each(func(c *api.Cmd, n int) { c.Port = n }, 0, 65535)
	case "Service":
		return each(func(c *api.Cmd, s string) { c.Service = s }, "", "web-1", "web-2", "none", "A")
	case "Status":
		return each(func(c *api.Cmd, n int) { c.Status = n }, 0, 2, 3, 4, 65535)
	case "Src":
		return each(func(c *api.Cmd, s string) { c.Src = s }, "web", "*", "api", "", "A", sized(25))
	case "Dst":
		return each(func(c *api.Cmd, s string) { c.Dst = s }, "db", "*", "api", "", "A", sized(25))
	case "Allow":
		return each(func(c *api.Cmd, is bool) { c.Allow = is }, false, true)
	case "Old":
		return each(func(c *api.Cmd, n uint64) { c.Old = n }, 0, 1, 10, 11, 12, 13, 18, 19, 22, 24, 25, 1<<32+10, greatest)
	case "Key":
		return each(func(c *api.Cmd, s string) { c.Key = s }, "a", "k/1", "k/2", "k/3", "k", "new", "", "A", "a//b", sized(32), sized(33))
	case "Value":
		return each(func(c *api.Cmd, s string) { c.Value = s }, "", "v", sized(64), sized(65), sized(80))
	}
	return each(func(c *api.Cmd, n uint64) { c.Session = n }, 0, 1, 13, 14, 15, 16, 17, 18, 24, 25, 1<<32+14, greatest)
}

// each is a function for each value, which gives it to a command.
func each[T any](give func(*api.Cmd, T), l ...T) []func(*api.Cmd) {
	var all []func(*api.Cmd)
	for _, x := range l {
		all = append(all, func(c *api.Cmd) { give(c, x) })
	}
	return all
}

// fields is the fields of a kind's commands, by the given package.
func fields(kind int) []string {
	switch kind {
	case api.CNode:
		return []string{"Node", "Note"}
	case api.CDropNode, api.COpen:
		return []string{"Node"}
	case api.CService:
		return []string{"Node", "Id", "Name", "Tags", "Port"}
	case api.CDropService, api.CDropCheck:
		return []string{"Node", "Id"}
	case api.CCheck:
		return []string{"Node", "Id", "Service", "Note", "Status"}
	case api.CIntend:
		return []string{"Src", "Dst", "Allow"}
	case api.CTurn:
		return []string{"Src", "Dst", "Allow", "Old"}
	case api.CDropIntent:
		return []string{"Src", "Dst", "Old"}
	case api.CSet:
		return []string{"Key", "Value"}
	case api.CCas:
		return []string{"Key", "Value", "Old"}
	case api.CDel:
		return []string{"Key"}
	case api.CDelCas:
		return []string{"Key", "Old"}
	case api.CLock, api.CUnlock:
		return []string{"Key", "Value", "Session"}
	}
	return []string{"Session"}
}

// variants is commands of a kind, with each value of each field beside each of the others.
func variants(kind int) []api.Cmd {
	l := []api.Cmd{{Kind: kind}}
	for _, field := range fields(kind) {
		var more []api.Cmd
		for _, c := range l {
			for _, give := range values(field) {
				give(&c)
				more = append(more, c)
			}
		}
		l = more
	}
	return l
}
