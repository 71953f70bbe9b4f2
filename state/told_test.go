package state_test

import (
	"cmp"
	"slices"
	"strings"
	"testing"

	"sodality/api"
	"sodality/order"
	"sodality/state"
)

// told is a catalog by the words of the chapters: how many rows a table has room for, and all that a Dump tells.
type told struct {
	most int
	d    api.Dump
}

// The places of the tables among the last indexes.
const (
	nodes = iota
	services
	checks
	intentions
	entries
	sessions
)

// spelt asks whether a text is not empty, of small letters, digits and some more bytes alone.
func spelt(s, more string) bool {
	for _, b := range []byte(s) {
		if !strings.ContainsRune("abcdefghijklmnopqrstuvwxyz0123456789"+more, rune(b)) {
			return false
		}
	}
	return s != ""
}

// isName is what the first layer says of a name.
func isName(s string) bool {
	return spelt(s, "-") && len(s) <= 24 && s[0] != '-' && s[len(s)-1] != '-'
}

// isPattern is what the first layer says of a pattern.
func isPattern(s string) bool {
	return s == "*" || isName(s)
}

// isKey is what the first layer says of a key.
func isKey(s string) bool {
	for _, part := range strings.Split(s, "/") {
		if !spelt(part, "-_.") {
			return false
		}
	}
	return len(s) <= 32
}

// isTags is what the first layer says of tags.
func isTags(l []string) bool {
	for i, s := range l {
		if !isName(s) || i > 0 && l[i-1] >= s {
			return false
		}
	}
	return len(l) <= 4
}

// isNode asks whether a number may be a node.
func isNode(n int) bool {
	return n >= 0 && n < 8
}

// where is the place of the row for which something holds, or -1.
func where[T any](l []T, holds func(T) bool) int {
	return slices.IndexFunc(l, holds)
}

// node is the place of a node.
func (m *told) node(n int) int {
	return where(m.d.Nodes, func(x api.Node) bool { return x.Node == n })
}

// service is the place of a service.
func (m *told) service(n int, id string) int {
	return where(m.d.Services, func(x api.Service) bool { return x.Node == n && x.Id == id })
}

// check is the place of a check.
func (m *told) check(n int, id string) int {
	return where(m.d.Checks, func(x api.Check) bool { return x.Node == n && x.Id == id })
}

// intention is the place of an intention.
func (m *told) intention(src, dst string) int {
	return where(m.d.Intentions, func(x api.Intention) bool { return x.Src == src && x.Dst == dst })
}

// entry is the place of a key's entry.
func (m *told) entry(key string) int {
	return where(m.d.Entries, func(x api.Entry) bool { return x.Key == key })
}

// session is the place of a session.
func (m *told) session(id uint64) int {
	return where(m.d.Sessions, func(x api.Session) bool { return x.Id == id })
}

// lay puts a row at its place, or behind the others, if a table has room; the row gets the index, and its Make unless it is there.
func lay[T any](m *told, table int, l *[]T, at int, row T, indexes func(*T) (made, index *uint64)) api.Errno {
	if at < 0 && len(*l) >= m.most {
		return errFull
	}
	made, index := indexes(&row)
	*made, *index = m.d.Index, m.d.Index
	if at >= 0 {
		was, _ := indexes(&(*l)[at])
		*made = *was
		(*l)[at] = row
	} else {
		*l = append(*l, row)
	}
	m.d.Last[table] = max(m.d.Last[table], m.d.Index)
	return api.OK
}

// drop takes the rows away for which something holds, and is how many.
func drop[T any](m *told, table int, l *[]T, holds func(T) bool) int {
	before := len(*l)
	*l = slices.DeleteFunc(*l, holds)
	if len(*l) < before {
		m.d.Last[table] = max(m.d.Last[table], m.d.Index)
	}
	return before - len(*l)
}

// dropped is the error of a row that is to go, where there is none.
func dropped(n int) api.Errno {
	if n == 0 {
		return errNone
	}
	return api.OK
}

// layNode is what P19.1 says of Node.
func (m *told) layNode(c api.Cmd) api.Errno {
	switch {
	case !isNode(c.Node):
		return errArg
	case len(c.Note) > 32:
		return errLong
	}
	row := api.Node{Node: c.Node, Addr: c.Note}
	return lay(m, nodes, &m.d.Nodes, m.node(c.Node), row, func(x *api.Node) (*uint64, *uint64) { return &x.Make, &x.Index })
}

// dropNode is what P19.1 says of DropNode, and P21.2 of its sessions.
func (m *told) dropNode(c api.Cmd) api.Errno {
	if drop(m, nodes, &m.d.Nodes, func(x api.Node) bool { return x.Node == c.Node }) == 0 {
		return errNone
	}
	drop(m, services, &m.d.Services, func(x api.Service) bool { return x.Node == c.Node })
	drop(m, checks, &m.d.Checks, func(x api.Check) bool { return x.Node == c.Node })
	for _, x := range slices.Clone(m.d.Sessions) {
		if x.Node == c.Node {
			m.shut(x.Id)
		}
	}
	return api.OK
}

// layService is what P19.2 says of Service.
func (m *told) layService(c api.Cmd) api.Errno {
	switch {
	case !isNode(c.Node) || c.Port < 0 || c.Port > 65535:
		return errArg
	case !isName(c.Id) || !isName(c.Name) || !isTags(c.Tags):
		return errName
	case m.node(c.Node) < 0:
		return errNone
	}
	row := api.Service{Node: c.Node, Id: c.Id, Name: c.Name, Tags: slices.Clone(c.Tags), Port: c.Port}
	return lay(m, services, &m.d.Services, m.service(c.Node, c.Id), row, func(x *api.Service) (*uint64, *uint64) { return &x.Make, &x.Index })
}

// dropService is what P19.2 says of DropService.
func (m *told) dropService(c api.Cmd) api.Errno {
	if drop(m, services, &m.d.Services, func(x api.Service) bool { return x.Node == c.Node && x.Id == c.Id }) == 0 {
		return errNone
	}
	drop(m, checks, &m.d.Checks, func(x api.Check) bool { return x.Node == c.Node && x.Service == c.Id })
	return api.OK
}

// layCheck is what P19.3 says of Check.
func (m *told) layCheck(c api.Cmd) api.Errno {
	switch {
	case !isNode(c.Node) || c.Status < 0 || c.Status > 3:
		return errArg
	case !isName(c.Id) || c.Service != "" && !isName(c.Service):
		return errName
	case len(c.Note) > 32:
		return errLong
	case m.node(c.Node) < 0 || c.Service != "" && m.service(c.Node, c.Service) < 0:
		return errNone
	}
	row := api.Check{Node: c.Node, Id: c.Id, Service: c.Service, Note: c.Note, Status: c.Status}
	return lay(m, checks, &m.d.Checks, m.check(c.Node, c.Id), row, func(x *api.Check) (*uint64, *uint64) { return &x.Make, &x.Index })
}

// layIntention is what P17.1 says of Add and Turn.
func (m *told) layIntention(c api.Cmd) api.Errno {
	place := m.intention(c.Src, c.Dst)
	switch {
	case !isPattern(c.Src) || !isPattern(c.Dst):
		return errName
	case c.Kind == api.CIntend && place >= 0:
		return errTwice
	case c.Kind == api.CTurn && place < 0:
		return errNone
	case c.Kind == api.CTurn && c.Old != 0 && c.Old != m.d.Intentions[place].Index:
		return errCas
	}
	row := api.Intention{Src: c.Src, Dst: c.Dst, Allow: c.Allow}
	return lay(m, intentions, &m.d.Intentions, place, row, func(x *api.Intention) (*uint64, *uint64) { return &x.Make, &x.Index })
}

// dropIntention is what P17.1 says of Drop.
func (m *told) dropIntention(c api.Cmd) api.Errno {
	place := m.intention(c.Src, c.Dst)
	switch {
	case !isPattern(c.Src) || !isPattern(c.Dst):
		return errName
	case place < 0:
		return errNone
	case c.Old != 0 && c.Old != m.d.Intentions[place].Index:
		return errCas
	}
	return dropped(drop(m, intentions, &m.d.Intentions, func(x api.Intention) bool { return x.Src == c.Src && x.Dst == c.Dst }))
}

// layEntry lays an entry.
func (m *told) layEntry(e api.Entry) api.Errno {
	return lay(m, entries, &m.d.Entries, m.entry(e.Key), e, func(x *api.Entry) (*uint64, *uint64) { return &x.Make, &x.Index })
}

// unheld is the error of a session's lock or unlock, by P16.3 and P21.2.
func (m *told) unheld(c api.Cmd, e api.Entry, is bool) api.Errno {
	switch {
	case c.Kind == api.CLock && c.Session == 0:
		return errArg
	case c.Kind == api.CLock && e.Session != 0 && e.Session != c.Session:
		return errHeld
	case c.Kind == api.CUnlock && !is:
		return errNone
	case c.Kind == api.CUnlock && (c.Session == 0 || e.Session != c.Session):
		return errHeld
	}
	return api.OK
}

// turnEntry is what P16.2 and P16.3 say of Set, Cas, Lock and Unlock, and P21.2 of CLock.
func (m *told) turnEntry(c api.Cmd) api.Errno {
	place, e := m.entry(c.Key), api.Entry{Key: c.Key}
	if place >= 0 {
		e = m.d.Entries[place]
	}
	switch {
	case c.Kind == api.CLock && c.Session != 0 && m.session(c.Session) < 0:
		return errNone
	case !isKey(c.Key):
		return errName
	case len(c.Value) > 64:
		return errLong
	case c.Kind == api.CCas && (c.Old == 0) != (place < 0), c.Kind == api.CCas && place >= 0 && c.Old != e.Index:
		return errCas
	}
	if err := m.unheld(c, e, place >= 0); err != api.OK {
		return err
	}
	if c.Kind == api.CLock && e.Session != c.Session {
		e.Locks++
		e.Session = c.Session
	}
	if c.Kind == api.CUnlock {
		e.Session = 0
	}
	e.Value = c.Value
	return m.layEntry(e)
}

// dropEntry is what P16.2 says of Del and DelCas.
func (m *told) dropEntry(c api.Cmd) api.Errno {
	place := m.entry(c.Key)
	switch {
	case !isKey(c.Key):
		return errName
	case place < 0:
		return errNone
	case c.Kind == api.CDelCas && c.Old != m.d.Entries[place].Index:
		return errCas
	}
	return dropped(drop(m, entries, &m.d.Entries, func(x api.Entry) bool { return x.Key == c.Key }))
}

// open is what P21.2 and P18.1 say of COpen.
func (m *told) open(n int) api.Errno {
	switch {
	case m.node(n) < 0:
		return errNone
	case m.session(m.d.Index) >= 0:
		return errTwice
	}
	row := api.Session{Id: m.d.Index, Node: n}
	return lay(m, sessions, &m.d.Sessions, -1, row, func(x *api.Session) (*uint64, *uint64) { return &x.Make, &x.Index })
}

// shut is what P21.2 says of CClose.
func (m *told) shut(id uint64) api.Errno {
	if drop(m, sessions, &m.d.Sessions, func(x api.Session) bool { return x.Id == id }) == 0 {
		return errNone
	}
	for _, e := range slices.Clone(m.d.Entries) {
		if e.Session == id {
			e.Session = 0
			m.layEntry(e)
		}
	}
	return api.OK
}

// do is what P21.2 says of a command that is no transaction.
func (m *told) do(c api.Cmd) api.Errno {
	switch c.Kind {
	case api.CNode:
		return m.layNode(c)
	case api.CDropNode:
		return m.dropNode(c)
	case api.CService:
		return m.layService(c)
	case api.CDropService:
		return m.dropService(c)
	case api.CCheck:
		return m.layCheck(c)
	case api.CDropCheck:
		return dropped(drop(m, checks, &m.d.Checks, func(x api.Check) bool { return x.Node == c.Node && x.Id == c.Id }))
	case api.CIntend, api.CTurn:
		return m.layIntention(c)
	case api.CDropIntent:
		return m.dropIntention(c)
	case api.CSet, api.CCas, api.CLock, api.CUnlock:
		return m.turnEntry(c)
	case api.CDel, api.CDelCas:
		return m.dropEntry(c)
	case api.COpen:
		return m.open(c.Node)
	}
	return m.shut(c.Session)
}

// apply is what P21.1 and P21.3 say of an order.
func (m *told) apply(o api.Order) (api.Result, bool) {
	if !order.Right(o.C) || o.Client < 0 || o.Client > 15 {
		return api.Result{Err: errArg}, false
	}
	place := where(m.d.Seen, func(x api.Seen) bool { return x.Client == o.Client })
	if place >= 0 && m.d.Seen[place].Seq == o.Seq {
		return api.Result{Index: m.d.Seen[place].Index}, true
	}
	if place >= 0 && m.d.Seen[place].Seq > o.Seq {
		return api.Result{Err: errStale}, false
	}
	next := m.copy()
	next.d.Index++
	subs := o.C.Subs
	if o.C.Kind != api.CTxn {
		subs = []api.Cmd{o.C}
	}
	for at, c := range subs {
		if err := next.do(c); err != api.OK {
			return api.Result{Err: err, At: at}, false
		}
	}
	seen := api.Seen{Client: o.Client, Seq: o.Seq, Index: next.d.Index}
	if place >= 0 {
		next.d.Seen[place] = seen
	} else {
		next.d.Seen = append(next.d.Seen, seen)
	}
	*m = *next
	m.sort()
	return api.Result{Index: m.d.Index}, false
}

// rank is what the seventeenth layer says of an intention's rank.
func rank(i api.Intention) int {
	r := 3
	if i.Src == "*" {
		r--
	}
	if i.Dst == "*" {
		r -= 2
	}
	return r
}

// sort lays the rows in the order in which the layers tell them.
func (m *told) sort() {
	d := &m.d
	slices.SortFunc(d.Nodes, func(a, b api.Node) int { return cmp.Compare(a.Node, b.Node) })
	slices.SortFunc(d.Services, func(a, b api.Service) int {
		return cmp.Or(cmp.Compare(a.Node, b.Node), cmp.Compare(a.Id, b.Id))
	})
	slices.SortFunc(d.Checks, func(a, b api.Check) int {
		return cmp.Or(cmp.Compare(a.Node, b.Node), cmp.Compare(a.Id, b.Id))
	})
	slices.SortFunc(d.Intentions, func(a, b api.Intention) int {
		return cmp.Or(cmp.Compare(rank(b), rank(a)), cmp.Compare(a.Dst, b.Dst), cmp.Compare(a.Src, b.Src))
	})
	slices.SortFunc(d.Entries, func(a, b api.Entry) int { return cmp.Compare(a.Key, b.Key) })
	slices.SortFunc(d.Sessions, func(a, b api.Session) int { return cmp.Compare(a.Id, b.Id) })
	slices.SortFunc(d.Seen, func(a, b api.Seen) int { return cmp.Compare(a.Client, b.Client) })
}

// copy is another one of which all is as of this one.
func (m *told) copy() *told {
	return &told{m.most, cloned(m.d)}
}

// cloned is a dump that shares nothing with another one.
func cloned(d api.Dump) api.Dump {
	d.Nodes, d.Services, d.Checks = slices.Clone(d.Nodes), slices.Clone(d.Services), slices.Clone(d.Checks)
	d.Intentions, d.Entries, d.Sessions = slices.Clone(d.Intentions), slices.Clone(d.Entries), slices.Clone(d.Sessions)
	d.Seen = slices.Clone(d.Seen)
	for i := range d.Services {
		d.Services[i].Tags = slices.Clone(d.Services[i].Tags)
	}
	return d
}

// sameService asks whether two services are equal.
func sameService(a, b api.Service) bool {
	return slices.Equal(a.Tags, b.Tags) && a.Node == b.Node && a.Id == b.Id && a.Name == b.Name && a.Port == b.Port && a.Make == b.Make && a.Index == b.Index
}

// same asks whether two dumps are equal.
func same(a, b api.Dump) bool {
	return a.Index == b.Index && a.Last == b.Last &&
		slices.Equal(a.Nodes, b.Nodes) && slices.EqualFunc(a.Services, b.Services, sameService) && slices.Equal(a.Checks, b.Checks) &&
		slices.Equal(a.Intentions, b.Intentions) && slices.Equal(a.Entries, b.Entries) && slices.Equal(a.Sessions, b.Sessions) &&
		slices.Equal(a.Seen, b.Seen)
}

// clamped is what P15.1 says of a capacity.
func clamped(most int) int {
	if most < 1 {
		return 1
	}
	if most > 64 {
		return 64
	}
	return most
}

// both is an empty state, and one by the chapter's words.
func both(t *testing.T, most int) (*state.State, *told) {
	t.Helper()
	s := state.New(most)
	if s == nil {
		t.Fatalf("New(%d) = nil", most)
	}
	m := &told{most: clamped(most)}
	agree(t, s, m)
	return s, m
}

// agree fails where a state tells something else than the chapter's words.
func agree(t *testing.T, s *state.State, m *told) {
	t.Helper()
	if got := s.Index(); got != m.d.Index {
		t.Fatalf("Index = %d, want %d", got, m.d.Index)
	}
	if got := s.Dump(); !same(got, m.d) {
		t.Fatalf("Dump = %+v\nwant   %+v", got, m.d)
	}
}

// apply does an order at both, which must answer the same.
func apply(t *testing.T, s *state.State, m *told, o api.Order) (api.Result, bool) {
	t.Helper()
	before := m.copy()
	got, again := s.Apply(o)
	if want, repeated := m.apply(o); got != want || again != repeated {
		t.Fatalf("Apply(%+v) = %+v, %t, want %+v, %t, of %+v", o, got, again, want, repeated, before.d)
	}
	agree(t, s, m)
	return got, again
}

// next is the next order of client 0.
func next(m *told, c api.Cmd) api.Order {
	if len(m.d.Seen) > 0 && m.d.Seen[0].Client == 0 {
		return api.Order{Seq: m.d.Seen[0].Seq + 1, C: c}
	}
	return api.Order{C: c}
}

// does does a command at both, as the next one of client 0, and fails where it does not come to what it must.
func does(t *testing.T, s *state.State, m *told, c api.Cmd, want api.Errno) {
	t.Helper()
	if got, again := apply(t, s, m, next(m, c)); got.Err != want || again {
		t.Fatalf("%+v = %+v, %t, want error %d", c, got, again, want)
	}
}

// ok does commands at both, each of which must be done.
func ok(t *testing.T, s *state.State, m *told, l ...api.Cmd) {
	t.Helper()
	for _, c := range l {
		does(t, s, m, c, api.OK)
	}
}

// refused fails where an order that must come to a result is done, or leaves a trace.
func refused(t *testing.T, s *state.State, m *told, o api.Order, want api.Result) {
	t.Helper()
	if got, again := apply(t, s, m, o); got != want || again {
		t.Fatalf("Apply(%+v) = %+v, %t, want %+v", o, got, again, want)
	}
}
