package roster_test

import (
	"cmp"
	"math"
	"slices"
	"strings"
	"testing"

	"sodality/api"
	"sodality/roster"
)

// The numbers of the chapter and of the words it leans on: how many rows and nodes there may be, the longest texts and lists, the ports, the statuses, the errors, and the greatest index.
const (
	mostRows  = 64
	mostNodes = 8
	mostNote  = 32
	mostPort  = 65535
	passing   = 0
	warning   = 1
	critical  = 2
	maint     = 3
	errNil    = 1
	errArg    = 2
	errLong   = 3
	errNone   = 4
	errFull   = 5
	errName   = 10
	greatest  = math.MaxUint64
)

// ints is numbers of any kind: those around the limits of rows, nodes, statuses and ports, and where integers of any width end.
func ints() []int {
	l := []int{math.MinInt, math.MinInt + 1, math.MinInt32, math.MaxInt32, math.MaxInt - 1, math.MaxInt, -256, 255, 256, 264, 1 << 32, 1<<32 + 3, -1 << 32, 1 << 62, 32767, 32768, 65534, 65535, 65536, 65537}
	for n := -9; n <= 70; n++ {
		l = append(l, n)
	}
	return l
}

// few is some indexes.
func few() []uint64 {
	return []uint64{0, 1, 2, 3, 9, 10, 11, 1<<32 - 1, 1 << 32, 1<<63 - 1, 1 << 63, greatest - 1, greatest}
}

// names is texts that are names.
func names() []string {
	return []string{"a", "z", "0", "9", "1", "a-b", "a--b", "web", "web-1", "web-2", "0-9", strings.Repeat("a", 24), strings.Repeat("x-", 11) + "yz", "10", "01"}
}

// noNames is texts that are no names, and not empty.
func noNames() []string {
	return []string{"-", "-a", "a-", "A", "web_1", "a.b", "a/b", "/", "/a", "a/", "1/web-1", "*", " ", "a b", "a\n", "\x00", "\xff", "ä", "a\x00", strings.Repeat("a", 25), strings.Repeat("a", 300)}
}

// texts is texts of any length and any bytes.
func texts() []string {
	l := []string{"10.0.0.1", "\x00", "\xff\xfe", "ä", " ", "a/b", "*", strings.Repeat("ä", 16), strings.Repeat("ä", 16) + "x", strings.Repeat("\x00", 33)}
	for n := range 40 {
		l = append(l, strings.Repeat("n", n))
	}
	return append(l, strings.Repeat("n", 64), strings.Repeat("n", 256), strings.Repeat("n", 256+32), strings.Repeat("n", 5000))
}

// tagLists is lists that may be tags.
func tagLists() [][]string {
	return [][]string{nil, {}, {"a"}, {"a", "b"}, {"a", "a-b", "ab", "b"}, {"0", "1", "2", "3"}, {strings.Repeat("t", 24)}}
}

// noTags is lists that may not be tags.
func noTags() [][]string {
	return [][]string{{""}, {"A"}, {"b", "a"}, {"a", "a"}, {"a", "b", "b"}, {"a", "b", "c", "d", "e"}, {"a", "b-"}, {"a", ""}, {strings.Repeat("t", 25)}, {"*"}, {"a", "c", "b", "d"}}
}

// right asks whether a number may be a node.
func right(node int) bool {
	return node >= 0 && node <= mostNodes-1
}

// chance is numbers that follow from a seed.
type chance uint64

// below is the next number, from 0 to n-1.
func (c *chance) below(n int) int {
	*c = *c*6364136223846793005 + 1442695040888963407
	return int(uint64(*c)>>33) % n
}

// seldom is true once in a while.
func (c *chance) seldom() bool {
	return c.below(25) == 0
}

// number is any index: mostly one of a few, so that they often meet.
func (c *chance) number(most int) uint64 {
	if c.seldom() {
		return few()[c.below(len(few()))]
	}
	return uint64(c.below(most))
}

// node is any node, mostly one of a few that may be.
func (c *chance) node() int {
	if c.seldom() {
		return ints()[c.below(len(ints()))]
	}
	return []int{0, 1, 7}[c.below(3)]
}

// name is any text, mostly one of a few names.
func (c *chance) name() string {
	if c.seldom() {
		return append(noNames(), "")[c.below(len(noNames())+1)]
	}
	return []string{"a", "b", "web-1", "1"}[c.below(4)]
}

// text is any text, mostly one that may be a note.
func (c *chance) text() string {
	if c.seldom() {
		return texts()[c.below(len(texts()))]
	}
	return []string{"", "x", "10.0.0.1"}[c.below(3)]
}

// service is any service.
func (c *chance) service() api.Service {
	s := api.Service{Node: c.node(), Id: c.name(), Name: c.name(), Tags: tagLists()[c.below(len(tagLists()))], Port: c.below(mostPort + 1), Make: c.number(9), Index: c.number(9)}
	if c.seldom() {
		s.Tags = noTags()[c.below(len(noTags()))]
	}
	if c.seldom() {
		s.Port = ints()[c.below(len(ints()))]
	}
	return s
}

// check is any check.
func (c *chance) check() api.Check {
	x := api.Check{Node: c.node(), Id: c.name(), Service: c.name(), Note: c.text(), Status: c.below(4), Make: c.number(9), Index: c.number(9)}
	if c.below(3) == 0 {
		x.Service = ""
	}
	if c.seldom() {
		x.Status = ints()[c.below(len(ints()))]
	}
	return x
}

// The functions that modify.
const (
	node        = "Node"
	dropNode    = "DropNode"
	service     = "Service"
	dropService = "DropService"
	check       = "Check"
	dropCheck   = "DropCheck"
)

// call is a call that modifies: each function takes some of the fields; text is an address or an Id.
type call struct {
	of    string
	node  int
	text  string
	s     api.Service
	c     api.Check
	index uint64
}

// do is the call at a roster.
func (c call) do(r *roster.Roster) api.Errno {
	switch c.of {
	case node:
		return r.Node(c.node, c.text, c.index)
	case dropNode:
		return r.DropNode(c.node, c.index)
	case service:
		return r.Service(c.s, c.index)
	case dropService:
		return r.DropService(c.node, c.text, c.index)
	case check:
		return r.Check(c.c, c.index)
	}
	return r.DropCheck(c.node, c.text, c.index)
}

// any is any call.
func (c *chance) any(index uint64) call {
	switch c.below(12) {
	case 0, 1:
		return call{of: node, node: c.node(), text: c.text(), index: index}
	case 2:
		return call{of: dropNode, node: c.node(), index: index}
	case 3, 4, 5:
		return call{of: service, s: c.service(), index: index}
	case 6:
		return call{of: dropService, node: c.node(), text: c.name(), index: index}
	case 7:
		return call{of: dropCheck, node: c.node(), text: c.name(), index: index}
	}
	return call{of: check, c: c.check(), index: index}
}

// told is a roster by the words of the chapter: the capacity, the last indexes, and the rows in no order.
type told struct {
	most     int
	last     [3]uint64
	nodes    []api.Node
	services []api.Service
	checks   []api.Check
}

// isName is what the first layer says of a name.
func isName(s string) bool {
	for _, b := range []byte(s) {
		if !strings.ContainsRune("abcdefghijklmnopqrstuvwxyz0123456789-", rune(b)) {
			return false
		}
	}
	return len(s) >= 1 && len(s) <= 24 && s[0] != '-' && s[len(s)-1] != '-'
}

// isTags is what the first layer says of tags.
func isTags(l []string) bool {
	for i, s := range l {
		if !isName(s) || i > 0 && l[i-1] >= s {
			return false
		}
	}
	return len(l) <= 4
}

// nodeAt is where a node is, or -1.
func (m *told) nodeAt(node int) int {
	return slices.IndexFunc(m.nodes, func(n api.Node) bool { return n.Node == node })
}

// serviceAt is where a service is, or -1.
func (m *told) serviceAt(node int, id string) int {
	return slices.IndexFunc(m.services, func(s api.Service) bool { return s.Node == node && s.Id == id })
}

// checkAt is where a check is, or -1.
func (m *told) checkAt(node int, id string) int {
	return slices.IndexFunc(m.checks, func(c api.Check) bool { return c.Node == node && c.Id == id })
}

// raise tells a table's index.
func (m *told) raise(table int, index uint64) {
	m.last[table] = max(m.last[table], index)
}

// node is what P19.1 says of Node.
func (m *told) node(node int, addr string, index uint64) api.Errno {
	at := m.nodeAt(node)
	switch {
	case !right(node):
		return errArg
	case len(addr) > mostNote:
		return errLong
	case at < 0 && len(m.nodes) == m.most:
		return errFull
	}
	m.raise(0, index)
	if at >= 0 {
		m.nodes[at].Addr, m.nodes[at].Index = addr, index
		return api.OK
	}
	// It goes ahead of the others, so that they are in no order here.
	m.nodes = append([]api.Node{{Node: node, Addr: addr, Make: index, Index: index}}, m.nodes...)
	return api.OK
}

// dropNode is what P19.1 says of DropNode.
func (m *told) dropNode(node int, index uint64) api.Errno {
	at := m.nodeAt(node)
	if at < 0 {
		return errNone
	}
	m.raise(0, index)
	m.nodes = slices.Delete(m.nodes, at, at+1)
	m.drop(index, func(s api.Service) bool { return s.Node == node }, func(c api.Check) bool { return c.Node == node })
	return api.OK
}

// drop removes the services and checks that are some.
func (m *told) drop(index uint64, isService func(api.Service) bool, isCheck func(api.Check) bool) {
	before := len(m.services)
	if m.services = slices.DeleteFunc(m.services, isService); len(m.services) < before {
		m.raise(1, index)
	}
	before = len(m.checks)
	if m.checks = slices.DeleteFunc(m.checks, isCheck); len(m.checks) < before {
		m.raise(2, index)
	}
}

// service is what P19.2 says of Service.
func (m *told) service(s api.Service, index uint64) api.Errno {
	at := m.serviceAt(s.Node, s.Id)
	switch {
	case !right(s.Node) || s.Port < 0 || s.Port > mostPort:
		return errArg
	case !isName(s.Id) || !isName(s.Name) || !isTags(s.Tags):
		return errName
	case m.nodeAt(s.Node) < 0:
		return errNone
	case at < 0 && len(m.services) == m.most:
		return errFull
	}
	m.raise(1, index)
	s.Tags = slices.Clone(s.Tags)
	s.Make, s.Index = index, index
	if at >= 0 {
		s.Make = m.services[at].Make
		m.services = slices.Delete(m.services, at, at+1)
	}
	m.services = append([]api.Service{s}, m.services...)
	return api.OK
}

// dropService is what P19.2 says of DropService.
func (m *told) dropService(node int, id string, index uint64) api.Errno {
	if m.serviceAt(node, id) < 0 {
		return errNone
	}
	m.drop(index, func(s api.Service) bool { return s.Node == node && s.Id == id }, func(c api.Check) bool { return c.Node == node && c.Service == id })
	return api.OK
}

// check is what P19.3 says of Check.
func (m *told) check(c api.Check, index uint64) api.Errno {
	at := m.checkAt(c.Node, c.Id)
	switch {
	case !right(c.Node) || c.Status < passing || c.Status > maint:
		return errArg
	case !isName(c.Id) || c.Service != "" && !isName(c.Service):
		return errName
	case len(c.Note) > mostNote:
		return errLong
	case m.nodeAt(c.Node) < 0 || c.Service != "" && m.serviceAt(c.Node, c.Service) < 0:
		return errNone
	case at < 0 && len(m.checks) == m.most:
		return errFull
	}
	m.raise(2, index)
	c.Make, c.Index = index, index
	if at >= 0 {
		c.Make = m.checks[at].Make
		m.checks = slices.Delete(m.checks, at, at+1)
	}
	m.checks = append([]api.Check{c}, m.checks...)
	return api.OK
}

// dropCheck is what P19.3 says of DropCheck.
func (m *told) dropCheck(node int, id string, index uint64) api.Errno {
	if m.checkAt(node, id) < 0 {
		return errNone
	}
	m.drop(index, func(api.Service) bool { return false }, func(c api.Check) bool { return c.Node == node && c.Id == id })
	return api.OK
}

// do is what the chapter says of a call.
func (m *told) do(c call) api.Errno {
	switch c.of {
	case node:
		return m.node(c.node, c.text, c.index)
	case dropNode:
		return m.dropNode(c.node, c.index)
	case service:
		return m.service(c.s, c.index)
	case dropService:
		return m.dropService(c.node, c.text, c.index)
	case check:
		return m.check(c.c, c.index)
	}
	return m.dropCheck(c.node, c.text, c.index)
}

// sort lays the rows by node, and then by Id.
func (m *told) sort() {
	slices.SortFunc(m.nodes, func(a, b api.Node) int { return a.Node - b.Node })
	slices.SortFunc(m.services, func(a, b api.Service) int { return cmp.Or(a.Node-b.Node, strings.Compare(a.Id, b.Id)) })
	slices.SortFunc(m.checks, func(a, b api.Check) int { return cmp.Or(a.Node-b.Node, strings.Compare(a.Id, b.Id)) })
}

// health is what P19.5 says of Health.
func (m *told) health(node int, service string) int {
	worst := passing
	for _, c := range m.checks {
		if c.Node == node && (c.Service == "" || c.Service == service) {
			worst = max(worst, c.Status)
		}
	}
	return worst
}

// copy is another one of which all is as of this one.
func (m *told) copy() *told {
	return &told{m.most, m.last, slices.Clone(m.nodes), cloned(m.services), slices.Clone(m.checks)}
}

// cloned is services that share nothing with some.
func cloned(l []api.Service) []api.Service {
	l = slices.Clone(l)
	for i := range l {
		l[i].Tags = slices.Clone(l[i].Tags)
	}
	return l
}

// same asks whether two services are equal.
func same(a, b api.Service) bool {
	return a.Node == b.Node && a.Id == b.Id && a.Name == b.Name && slices.Equal(a.Tags, b.Tags) && a.Port == b.Port && a.Make == b.Make && a.Index == b.Index
}

// clamped is what P15.1 says of a capacity.
func clamped(most int) int {
	if most < 1 {
		return 1
	}
	if most > mostRows {
		return mostRows
	}
	return most
}

// both is an empty roster, and one by the chapter's words.
func both(t *testing.T, most int) (*roster.Roster, *told) {
	t.Helper()
	r := roster.New(most)
	if r == nil {
		t.Fatalf("New(%d) = nil", most)
	}
	return r, &told{most: clamped(most)}
}

// lists fails where a roster's rows, or its last indexes, are not those of the chapter's words.
func lists(t *testing.T, r *roster.Roster, m *told) {
	t.Helper()
	m.sort()
	if got := r.Last(); got != m.last {
		t.Fatalf("Last = %d, want %d", got, m.last)
	}
	if got := r.Nodes(); !slices.Equal(got, m.nodes) {
		t.Fatalf("Nodes = %+v, want %+v", got, m.nodes)
	}
	if got := r.Services(); !slices.EqualFunc(got, m.services, same) {
		t.Fatalf("Services = %+v, want %+v", got, m.services)
	}
	if got := r.Checks(); !slices.Equal(got, m.checks) {
		t.Fatalf("Checks = %+v, want %+v", got, m.checks)
	}
}

// agree fails where a roster tells something else than the chapter's words.
func agree(t *testing.T, r *roster.Roster, m *told) {
	t.Helper()
	lists(t, r, m)
	for _, n := range []int{-1, 0, 1, 2, 7, 8, 10} {
		ofNode(t, r, m, n)
		for _, s := range []string{"", "a", "web-1", "none", "A/"} {
			if got, want := r.Health(n, s), m.health(n, s); got != want {
				t.Fatalf("Health(%d, %q) = %d, want %d, of %+v", n, s, got, want, m.checks)
			}
		}
	}
}

// ofNode fails where Of answers something else than the chapter's words.
func ofNode(t *testing.T, r *roster.Roster, m *told, node int) {
	t.Helper()
	var services []api.Service
	for _, s := range m.services {
		if s.Node == node {
			services = append(services, s)
		}
	}
	var checks []api.Check
	for _, c := range m.checks {
		if c.Node == node {
			checks = append(checks, c)
		}
	}
	if s, c := r.Of(node); !slices.EqualFunc(s, services, same) || !slices.Equal(c, checks) {
		t.Fatalf("Of(%d) = %+v, %+v, want %+v, %+v", node, s, c, services, checks)
	}
}

// doBoth does a call at both, which must answer the same.
func doBoth(t *testing.T, r *roster.Roster, m *told, c call) api.Errno {
	t.Helper()
	got := c.do(r)
	if want := m.do(c); got != want {
		t.Fatalf("%+v = %d, want %d, of %+v", c, got, want, m)
	}
	agree(t, r, m)
	return got
}

// must does a call at both, with what it must come to.
func must(t *testing.T, r *roster.Roster, m *told, c call, want api.Errno) {
	t.Helper()
	if got := doBoth(t, r, m, c); got != want {
		t.Fatalf("%+v = %d, want %d", c, got, want)
	}
}

// refused fails where a call that must come to an error does not, at a roster of which the chapter's words are known.
func refused(t *testing.T, r *roster.Roster, m *told, c call, want api.Errno) {
	t.Helper()
	if got := c.do(r); got != want {
		t.Fatalf("%+v = %d, want %d", c, got, want)
	}
	lists(t, r, m)
}

// laysNode is the call that lays a node.
func laysNode(n int, addr string, index uint64) call {
	return call{of: node, node: n, text: addr, index: index}
}

// dropsNode is the call that lets a node go.
func dropsNode(n int, index uint64) call {
	return call{of: dropNode, node: n, index: index}
}

// lays is the call that lays a service.
func lays(n int, id string, index uint64) call {
	return call{of: service, s: api.Service{Node: n, Id: id, Name: "x", Port: 80}, index: index}
}

// drops is the call that lets a service go.
func drops(n int, id string, index uint64) call {
	return call{of: dropService, node: n, text: id, index: index}
}

// laysCheck is the call that lays a check of a service, or of the node itself.
func laysCheck(n int, id, service string, status int, index uint64) call {
	return call{of: check, c: api.Check{Node: n, Id: id, Service: service, Status: status}, index: index}
}

// dropsCheck is the call that lets a check go.
func dropsCheck(n int, id string, index uint64) call {
	return call{of: dropCheck, node: n, text: id, index: index}
}

// calls are those that make a roster of the nodes 1, 0, 7 and 3, with services and checks of most of them; Ids meet those of other nodes, and those of other kinds.
func calls() []call {
	return []call{
		laysNode(1, "10.0.0.1", 2), laysNode(0, "", 3), laysNode(7, "seven", 4), laysNode(3, "x", 5),
		lays(1, "web-1", 6), lays(1, "a", 7), lays(0, "web-1", 8), lays(7, "b", 9),
		laysCheck(1, "web-1", "", warning, 10), laysCheck(1, "c", "web-1", critical, 11), laysCheck(1, "a", "a", passing, 12),
		laysCheck(0, "web-1", "web-1", maint, 13), laysCheck(7, "z", "", passing, 14), laysCheck(7, "a", "b", warning, 15),
	}
}

// sample is both, with room, as of those calls.
func sample(t *testing.T) (*roster.Roster, *told) {
	t.Helper()
	r, m := both(t, 7)
	for _, c := range calls() {
		must(t, r, m, c, api.OK)
	}
	return r, m
}

// full is both, with no room for another node, service or check.
func full(t *testing.T) (*roster.Roster, *told) {
	t.Helper()
	r, m := both(t, 2)
	for _, c := range []call{
		laysNode(1, "10.0.0.1", 2), laysNode(0, "", 3),
		lays(1, "web-1", 6), lays(0, "web-1", 8),
		laysCheck(1, "c", "web-1", critical, 11), laysCheck(0, "d", "", warning, 10),
	} {
		must(t, r, m, c, api.OK)
	}
	return r, m
}

// The chapter's examples.
func TestExamples(t *testing.T) {
	r := roster.New(8)
	if err := r.Node(1, "10.0.0.1", 3); err != api.OK {
		t.Errorf("Node = %d", err)
	}
	if err := r.Service(api.Service{Node: 1, Id: "web-1", Name: "web", Port: 80}, 4); err != api.OK {
		t.Errorf("Service of node 1 = %d", err)
	}
	if err := r.Service(api.Service{Node: 2, Id: "web-1", Name: "web", Port: 80}, 4); err != errNone {
		t.Errorf("Service of node 2 = %d", err)
	}
	c := api.Check{Node: 1, Id: "c", Service: "web-1", Status: critical}
	d := api.Check{Node: 1, Id: "d", Status: warning}
	if e, f := r.Check(c, 5), r.Check(d, 6); e != api.OK || f != api.OK {
		t.Errorf("Check = %d, %d", e, f)
	}
	if h, i := r.Health(1, "web-1"), r.Health(1, "db"); h != critical || i != warning {
		t.Errorf("Health = %d, %d", h, i)
	}
	if err := r.DropService(1, "web-1", 7); err != api.OK {
		t.Errorf("DropService = %d", err)
	}
	d.Make, d.Index = 6, 6
	if l := r.Checks(); !slices.Equal(l, []api.Check{d}) {
		t.Errorf("Checks = %+v", l)
	}
}

// P19.1: a roster is empty at first, and each of its tables has room for as many rows as were told, but for one at least and 64 at most.
func TestP191New(t *testing.T) {
	for _, most := range ints() {
		r, m := both(t, most)
		agree(t, r, m)
		for n := range mostNodes {
			want := api.OK
			if n >= m.most {
				want = errFull
			}
			must(t, r, m, laysNode(n, "x", uint64(n+1)), want)
		}
		for i := range mostRows + 3 {
			want := api.OK
			if i >= m.most {
				want = errFull
			}
			id := "i" + string(rune('a'+i/10)) + string(rune('0'+i%10))
			s := lays(i%min(m.most, mostNodes), id, uint64(i+20))
			c := laysCheck(i%min(m.most, mostNodes), id, "", i%4, uint64(i+30))
			if got, of := s.do(r), m.do(s); got != want || of != want {
				t.Fatalf("service %d into a New(%d): %d, want %d", i, most, got, want)
			}
			if got, of := c.do(r), m.do(c); got != want || of != want {
				t.Fatalf("check %d into a New(%d): %d, want %d", i, most, got, want)
			}
		}
		agree(t, r, m)
		if len(r.Services()) != m.most || len(r.Checks()) != m.most || len(r.Nodes()) != min(m.most, mostNodes) {
			t.Fatalf("New(%d) has %d nodes, %d services and %d checks", most, len(r.Nodes()), len(r.Services()), len(r.Checks()))
		}
	}
}

// P19.1: Node adds each node, with each address that is not too long, and later sets its address; its services and checks stay.
func TestP191Node(t *testing.T) {
	for n := range mostNodes {
		for _, addr := range texts() {
			want := api.OK
			if len(addr) > mostNote {
				want = errLong
			}
			r, m := both(t, 2)
			must(t, r, m, laysNode(n, addr, 5), want)
			if want == api.OK && !slices.Equal(r.Nodes(), []api.Node{{Node: n, Addr: addr, Make: 5, Index: 5}}) {
				t.Fatalf("Nodes = %+v", r.Nodes())
			}
		}
	}
	for _, addr := range texts() {
		for n := range mostNodes {
			r, m := sample(t)
			want := api.OK
			if len(addr) > mostNote {
				want = errLong
			}
			must(t, r, m, laysNode(n, addr, 40), want)
		}
	}
	r, m := sample(t)
	services, checks := r.Of(1)
	must(t, r, m, laysNode(1, "other", 20), api.OK)
	must(t, r, m, laysNode(1, "", 19), api.OK)
	if l := r.Nodes(); l[1] != (api.Node{Node: 1, Make: 2, Index: 19}) || r.Last() != [3]uint64{20, 9, 15} {
		t.Fatalf("Nodes = %+v, Last = %d", l, r.Last())
	}
	if s, c := r.Of(1); !slices.EqualFunc(s, services, same) || !slices.Equal(c, checks) {
		t.Fatalf("Of(1) = %+v, %+v", s, c)
	}
}

// P19.1: a number that is no node has ErrArg, ahead of ErrLong, and that is ahead of ErrFull; a node that is there can be set without room.
func TestP191Errors(t *testing.T) {
	r, m := sample(t)
	f, n := full(t)
	for _, number := range ints() {
		if right(number) {
			continue
		}
		for _, addr := range texts() {
			refused(t, r, m, laysNode(number, addr, 50), errArg)
			refused(t, f, n, laysNode(number, addr, 50), errArg)
		}
	}
	long := strings.Repeat("x", mostNote+1)
	for number := range mostNodes {
		refused(t, r, m, laysNode(number, long, 50), errLong)
		refused(t, f, n, laysNode(number, long, 50), errLong)
		if number > 1 {
			refused(t, f, n, laysNode(number, "x", 50), errFull)
		} else {
			must(t, f, n, laysNode(number, "other", 50), api.OK)
		}
	}
	must(t, f, n, dropsNode(0, 51), api.OK)
	must(t, f, n, laysNode(6, long[1:], 52), api.OK)
	refused(t, f, n, laysNode(0, "x", 53), errFull)
}

// P19.1: DropNode removes a node with all that it has, and nothing of other ones; a number that is none of the nodes has ErrNone.
func TestP191DropNode(t *testing.T) {
	for _, number := range ints() {
		r, m := sample(t)
		want := api.Errno(errNone)
		if slices.Contains([]int{0, 1, 3, 7}, number) {
			want = api.OK
		}
		must(t, r, m, dropsNode(number, 30), want)
		must(t, r, m, dropsNode(number, 31), errNone)
		if s, c := r.Of(number); len(s)+len(c) > 0 {
			t.Fatalf("Of(%d) = %+v, %+v", number, s, c)
		}
		r, m = both(t, 2)
		must(t, r, m, dropsNode(number, 30), errNone)
	}
	r, m := sample(t)
	must(t, r, m, dropsNode(1, 30), api.OK)
	if len(r.Nodes()) != 3 || len(r.Services()) != 2 || len(r.Checks()) != 3 || r.Last() != [3]uint64{30, 30, 30} {
		t.Fatalf("%+v, %+v, %+v, %d", r.Nodes(), r.Services(), r.Checks(), r.Last())
	}
	must(t, r, m, laysNode(1, "again", 31), api.OK)
	if s, c := r.Of(1); len(s)+len(c) > 0 || r.Nodes()[1] != (api.Node{Node: 1, Addr: "again", Make: 31, Index: 31}) {
		t.Fatalf("Of(1) = %+v, %+v, Nodes = %+v", s, c, r.Nodes())
	}
	must(t, r, m, lays(1, "web-1", 32), api.OK)
	must(t, r, m, dropsCheck(1, "c", 33), errNone)
}

// P19.1: a node with as many services and checks as there may be goes with all of them, and leaves room for others.
func TestP191Many(t *testing.T) {
	r, m := both(t, mostRows)
	must(t, r, m, laysNode(2, "", 1), api.OK)
	must(t, r, m, laysNode(5, "", 2), api.OK)
	for round := range 2 {
		for i := range mostRows {
			id := string(rune('a'+i/26)) + string(rune('a'+i%26))
			of := 2
			if i%9 == 8 {
				of = 5
			}
			c := lays(of, id, uint64(10+i))
			d := laysCheck(of, id, id, i%4, uint64(10+i))
			if c.do(r) != m.do(c) || d.do(r) != m.do(d) {
				t.Fatalf("round %d, %d: Service or Check", round, i)
			}
		}
		agree(t, r, m)
		must(t, r, m, dropsNode(2, 100), api.OK)
		if len(r.Services()) != 7 || len(r.Checks()) != 7 {
			t.Fatalf("Services = %+v, Checks = %+v", r.Services(), r.Checks())
		}
		must(t, r, m, laysNode(2, "", 101), api.OK)
	}
}

// P19.2: Service adds a service with each Id, name, list of tags and port that may be, and those that may not be have their error.
func TestP192Service(t *testing.T) {
	r, m := sample(t)
	try := func(s api.Service, want api.Errno) {
		t.Helper()
		other, n := r.Copy(), m.copy()
		must(t, other, n, call{of: service, s: s, index: 40}, want)
		// Where there is one of that Id, it is replaced.
		s.Id = "web-1"
		s.Node = 1
		must(t, other, n, call{of: service, s: s, index: 41}, map[bool]api.Errno{true: api.OK, false: want}[want == errNone || want == api.OK])
	}
	plain := api.Service{Node: 1, Id: "id", Name: "web", Port: 80}
	for _, s := range names() {
		with := plain
		with.Id = s
		try(with, api.OK)
		with.Id, with.Name = plain.Id, s
		try(with, api.OK)
	}
	for _, s := range append(noNames(), "") {
		with := plain
		with.Id = s
		must(t, r, m, call{of: service, s: with, index: 40}, errName)
		with.Id, with.Name = plain.Id, s
		try(with, errName)
	}
	for _, l := range append(tagLists(), noTags()...) {
		with := plain
		with.Tags = l
		try(with, map[bool]api.Errno{true: api.OK, false: errName}[isTags(l)])
	}
	for _, port := range ints() {
		with := plain
		with.Port = port
		try(with, map[bool]api.Errno{true: api.OK, false: errArg}[port >= 0 && port <= mostPort])
	}
	for _, number := range ints() {
		with := plain
		with.Node = number
		want := api.OK
		if !right(number) {
			want = errArg
		} else if m.nodeAt(number) < 0 {
			want = errNone
		}
		must(t, r.Copy(), m.copy(), call{of: service, s: with, index: 40}, want)
	}
}

// P19.2: the order of Service's errors: each of them is ahead of those behind it.
func TestP192Errors(t *testing.T) {
	f, n := full(t)
	for _, number := range []int{-1, 8, 1, 5} {
		for _, port := range []int{-1, mostPort + 1, 0} {
			for _, id := range []string{"", "A", "b", "web-1"} {
				for _, tags := range [][]string{{"b", "a"}, {"a"}} {
					s := api.Service{Node: number, Id: id, Name: "x", Tags: tags, Port: port}
					want := api.OK
					switch {
					case number < 0 || number == 8 || port != 0:
						want = errArg
					case id == "" || id == "A" || len(tags) > 1:
						want = errName
					case number == 5:
						want = errNone
					case id == "b":
						want = errFull
					}
					must(t, f, n, call{of: service, s: s, index: 60}, want)
					s.Id, s.Name = "web-1", id
					if want == errFull || id == "b" && want == api.OK {
						want = api.OK
					}
					must(t, f, n, call{of: service, s: s, index: 61}, want)
				}
			}
		}
	}
	must(t, f, n, drops(0, "web-1", 70), api.OK)
	must(t, f, n, lays(1, "b", 71), api.OK)
	must(t, f, n, lays(0, "web-1", 72), errFull)
}

// P19.2: a service that is there is replaced, with all that it has; it keeps the index at which it was made, and its checks.
func TestP192Replace(t *testing.T) {
	r, m := sample(t)
	before := r.Checks()
	s := api.Service{Node: 1, Id: "web-1", Name: "db", Tags: []string{"a", "b"}, Port: mostPort, Make: 77, Index: 78}
	must(t, r, m, call{of: service, s: s, index: 30}, api.OK)
	s.Make, s.Index = 6, 30
	if services, _ := r.Of(1); len(services) != 2 || !same(services[1], s) {
		t.Fatalf("Of(1) = %+v", services)
	}
	must(t, r, m, call{of: service, s: api.Service{Node: 1, Id: "web-1", Name: "x"}, index: 3}, api.OK)
	if services, _ := r.Of(1); !same(services[1], api.Service{Node: 1, Id: "web-1", Name: "x", Make: 6, Index: 3}) {
		t.Fatalf("Of(1) = %+v", services)
	}
	if !slices.Equal(r.Checks(), before) || r.Last() != [3]uint64{5, 30, 15} {
		t.Fatalf("Checks = %+v, Last = %d", r.Checks(), r.Last())
	}
}

// P19.2: DropService removes just that service and its checks; what is none has ErrNone.
func TestP192DropService(t *testing.T) {
	for _, number := range ints() {
		for _, id := range append(append(names(), noNames()...), "", "b", "c", "x") {
			r, m := sample(t)
			want := api.Errno(errNone)
			switch {
			case number == 1 && (id == "web-1" || id == "a"), number == 0 && id == "web-1", number == 7 && id == "b":
				want = api.OK
			}
			if c := drops(number, id, 30); c.do(r) != want {
				t.Fatalf("%+v: not %d", c, want)
			}
			if want == api.OK {
				r, _ = sample(t)
				must(t, r, m, drops(number, id, 30), want)
				must(t, r, m, drops(number, id, 31), errNone)
			}
			lists(t, r, m)
		}
	}
	r, m := sample(t)
	must(t, r, m, laysCheck(1, "d", "web-1", passing, 20), api.OK)
	must(t, r, m, drops(1, "web-1", 21), api.OK)
	if l := r.Checks(); len(l) != 5 || l[0].Node != 0 || l[1].Id != "a" || l[2].Id != "web-1" || l[2].Service != "" {
		t.Fatalf("Checks = %+v", l)
	}
	must(t, r, m, laysCheck(1, "d", "web-1", passing, 22), errNone)
	must(t, r, m, lays(1, "web-1", 23), api.OK)
	must(t, r, m, laysCheck(1, "d", "web-1", passing, 24), api.OK)
	if h := r.Health(1, "web-1"); h != warning {
		t.Fatalf("Health = %d", h)
	}
}

// P19.3: Check adds a check with each Id, service, note and status that may be, and those that may not be have their error.
func TestP193Check(t *testing.T) {
	r, m := sample(t)
	try := func(c api.Check, want api.Errno) {
		t.Helper()
		other, n := r.Copy(), m.copy()
		must(t, other, n, call{of: check, c: c, index: 40}, want)
		if c.Id == "id" {
			// Where there is one of that Id, it is replaced.
			c.Id = "c"
			must(t, other, n, call{of: check, c: c, index: 41}, want)
		}
	}
	plain := api.Check{Node: 1, Id: "id", Service: "web-1", Note: "n", Status: warning}
	for _, s := range append(append(names(), noNames()...), "") {
		with := plain
		with.Id = s
		try(with, map[bool]api.Errno{true: api.OK, false: errName}[isName(s)])
		with.Id, with.Service = plain.Id, s
		switch {
		case s == "" || s == "web-1" || s == "a":
			try(with, api.OK)
		case isName(s):
			try(with, errNone)
		default:
			try(with, errName)
		}
	}
	for _, s := range texts() {
		with := plain
		with.Note = s
		try(with, map[bool]api.Errno{true: api.OK, false: errLong}[len(s) <= mostNote])
	}
	for _, status := range ints() {
		with := plain
		with.Status = status
		try(with, map[bool]api.Errno{true: api.OK, false: errArg}[status >= passing && status <= maint])
	}
	for _, number := range ints() {
		for _, of := range []string{"", "web-1", "b"} {
			with := plain
			with.Node, with.Service = number, of
			want := api.OK
			if !right(number) {
				want = errArg
			} else if m.nodeAt(number) < 0 || of != "" && m.serviceAt(number, of) < 0 {
				want = errNone
			}
			must(t, r.Copy(), m.copy(), call{of: check, c: with, index: 40}, want)
		}
	}
}

// P19.3: the order of Check's errors: each of them is ahead of those behind it.
func TestP193Errors(t *testing.T) {
	f, n := full(t)
	long := strings.Repeat("n", mostNote+1)
	for _, number := range []int{-1, 8, 1, 5} {
		for _, status := range []int{-1, maint + 1, critical} {
			for _, id := range []string{"", "A", "b", "c"} {
				for _, of := range []string{"A", "", "web-1", "db"} {
					for _, note := range []string{long, long[1:]} {
						c := api.Check{Node: number, Id: id, Service: of, Note: note, Status: status}
						want := api.OK
						switch {
						case number < 0 || number == 8 || status != critical:
							want = errArg
						case id == "" || id == "A" || of == "A":
							want = errName
						case note == long:
							want = errLong
						case number == 5 || of == "db":
							want = errNone
						case id == "b":
							want = errFull
						}
						must(t, f, n, call{of: check, c: c, index: 60}, want)
					}
				}
			}
		}
	}
	must(t, f, n, dropsCheck(0, "d", 70), api.OK)
	must(t, f, n, laysCheck(1, "b", "", passing, 71), api.OK)
	must(t, f, n, laysCheck(0, "d", "", passing, 72), errFull)
}

// P19.3: a check is of a service of its own node; the service that it names is an Id, not a name.
func TestP193OwnNode(t *testing.T) {
	r, m := both(t, 8)
	for n := range mostNodes {
		must(t, r, m, laysNode(n, "", 1), api.OK)
	}
	s := api.Service{Node: 4, Id: "id", Name: "web"}
	must(t, r, m, call{of: service, s: s, index: 2}, api.OK)
	for n := range mostNodes {
		want := api.Errno(errNone)
		if n == 4 {
			want = api.OK
		}
		must(t, r, m, laysCheck(n, "c", "id", passing, 3), want)
		must(t, r, m, laysCheck(n, "d", "web", passing, 3), errNone)
		must(t, r, m, laysCheck(n, "d", "c", passing, 3), errNone)
	}
}

// P19.3: a check that is there is replaced, with all that it has: it may go over to another service, or to the node; it keeps the index at which it was made.
func TestP193Replace(t *testing.T) {
	r, m := sample(t)
	for _, of := range []string{"a", "", "web-1", "a"} {
		c := api.Check{Node: 1, Id: "c", Service: of, Note: "of " + of, Status: maint, Make: 90, Index: 91}
		must(t, r, m, call{of: check, c: c, index: 30}, api.OK)
		c.Make, c.Index = 11, 30
		if _, l := r.Of(1); len(l) != 3 || l[1] != c {
			t.Fatalf("Of(1) = %+v", l)
		}
	}
	must(t, r, m, drops(1, "web-1", 31), api.OK)
	if _, l := r.Of(1); len(l) != 3 {
		t.Fatalf("Of(1) = %+v", l)
	}
	must(t, r, m, laysCheck(1, "c", "web-1", passing, 32), errNone)
	must(t, r, m, drops(1, "a", 33), api.OK)
	if _, l := r.Of(1); len(l) != 1 {
		t.Fatalf("Of(1) = %+v", l)
	}
}

// P19.3: DropCheck removes just that check; what is none has ErrNone.
func TestP193DropCheck(t *testing.T) {
	ids := append(append(names(), noNames()...), "", "b", "c")
	for _, number := range ints() {
		for _, id := range ids {
			r, m := sample(t)
			want := api.Errno(errNone)
			if m.checkAt(number, id) >= 0 {
				want = api.OK
			}
			if c := dropsCheck(number, id, 30); c.do(r) != want || m.do(c) != want {
				t.Fatalf("%+v: not %d", c, want)
			}
			lists(t, r, m)
			if want == api.OK {
				must(t, r, m, dropsCheck(number, id, 31), errNone)
			}
		}
	}
	r, m := sample(t)
	for i, c := range r.Checks() {
		must(t, r, m, dropsCheck(c.Node, c.Id, uint64(40+i)), api.OK)
		if len(r.Checks()) != 5-i || len(r.Services()) != 4 || r.Last() != [3]uint64{5, 9, uint64(40 + i)} {
			t.Fatalf("Checks = %+v, Last = %d", r.Checks(), r.Last())
		}
	}
}

// P19.4: rows have the indexes at which they were made and last turned, whatever those of the arguments are, and for each two indexes, also falling ones.
func TestP194Indexes(t *testing.T) {
	for _, first := range few() {
		for _, then := range few() {
			r, m := both(t, 3)
			s := api.Service{Node: 2, Id: "s", Name: "x", Make: 4, Index: 5}
			c := api.Check{Node: 2, Id: "c", Service: "s", Make: 6, Index: 7}
			for _, index := range []uint64{first, then} {
				must(t, r, m, laysNode(2, "x", index), api.OK)
				must(t, r, m, call{of: service, s: s, index: index}, api.OK)
				must(t, r, m, call{of: check, c: c, index: index}, api.OK)
			}
			s.Make, s.Index, c.Make, c.Index = first, then, first, then
			last := max(first, then)
			if !slices.Equal(r.Nodes(), []api.Node{{Node: 2, Addr: "x", Make: first, Index: then}}) || !same(r.Services()[0], s) || r.Checks()[0] != c || r.Last() != [3]uint64{last, last, last} {
				t.Fatalf("%+v, %+v, %+v, %d", r.Nodes(), r.Services(), r.Checks(), r.Last())
			}
			r, m = both(t, 3)
			for _, c := range []call{laysNode(2, "x", first), lays(2, "s", first), laysCheck(2, "c", "s", 1, first), dropsNode(2, then)} {
				must(t, r, m, c, api.OK)
			}
			if r.Last() != [3]uint64{last, last, last} {
				t.Fatalf("Last = %d, want %d", r.Last(), last)
			}
		}
	}
}

// P19.4: each table has its own last index, which a modification of it raises; what is refused, or removes nothing, does not.
func TestP194Last(t *testing.T) {
	r, m := both(t, 2)
	for _, x := range []struct {
		c    call
		err  api.Errno
		last [3]uint64
	}{
		{dropsNode(1, 3), errNone, [3]uint64{}},
		{laysNode(1, "", 5), api.OK, [3]uint64{5, 0, 0}},
		{laysNode(8, "", 6), errArg, [3]uint64{5, 0, 0}},
		{laysNode(2, "", 7), api.OK, [3]uint64{7, 0, 0}},
		{laysNode(3, "", 8), errFull, [3]uint64{7, 0, 0}},
		{lays(1, "a", 9), api.OK, [3]uint64{7, 9, 0}},
		{lays(3, "a", 10), errNone, [3]uint64{7, 9, 0}},
		{laysCheck(1, "c", "a", critical, 11), api.OK, [3]uint64{7, 9, 11}},
		{laysCheck(1, "c", "b", critical, 12), errNone, [3]uint64{7, 9, 11}},
		{laysCheck(2, "c", "", critical, 8), api.OK, [3]uint64{7, 9, 11}},
		{drops(1, "b", 13), errNone, [3]uint64{7, 9, 11}},
		{dropsCheck(1, "a", 13), errNone, [3]uint64{7, 9, 11}},
		{dropsCheck(1, "c", 13), api.OK, [3]uint64{7, 9, 13}},
		{drops(1, "a", 14), api.OK, [3]uint64{7, 14, 13}},
		{dropsNode(1, 15), api.OK, [3]uint64{15, 14, 13}},
		{dropsNode(2, 16), api.OK, [3]uint64{16, 14, 16}},
		{laysNode(1, "", 1), api.OK, [3]uint64{16, 14, 16}},
		{lays(1, "a", 17), api.OK, [3]uint64{16, 17, 16}},
		{laysCheck(1, "c", "a", passing, 2), api.OK, [3]uint64{16, 17, 16}},
		{drops(1, "a", 18), api.OK, [3]uint64{16, 18, 18}},
		{lays(1, "a", 2), api.OK, [3]uint64{16, 18, 18}},
		{dropsNode(1, 19), api.OK, [3]uint64{19, 19, 18}},
		{laysNode(1, "", greatest), api.OK, [3]uint64{greatest, 19, 18}},
	} {
		must(t, r, m, x.c, x.err)
		if got := r.Last(); got != x.last {
			t.Fatalf("Last = %d behind %+v, want %d", got, x.c, x.last)
		}
	}
}

// P19.4: rows are ordered by node, and then by Id, as bytes, in whatever order they were added.
func TestP194Order(t *testing.T) {
	ids := []string{"0", "1", "10", "1a", "2", "a", "a-0", "a-b", "a0", "aa", "b", "z", "zz"}
	for seed := range 40 {
		c := chance(seed)
		r, m := both(t, mostRows)
		for _, n := range shuffled(mostNodes, &c) {
			must(t, r, m, laysNode(n, "", 1), api.OK)
		}
		var services []api.Service
		var checks []api.Check
		for n := range mostNodes {
			for _, id := range ids[seed%6 : seed%6+8] {
				services = append(services, api.Service{Node: n, Id: id, Name: "x", Make: 2, Index: 2})
				checks = append(checks, api.Check{Node: n, Id: id, Make: 3, Index: 3})
			}
		}
		for _, at := range shuffled(len(services), &c) {
			r.Service(services[at], 2)
			r.Check(checks[len(checks)-1-at], 3)
		}
		if !slices.EqualFunc(r.Services(), services, same) || !slices.Equal(r.Checks(), checks) {
			t.Fatalf("Services = %+v, Checks = %+v", r.Services(), r.Checks())
		}
		for n := range mostNodes {
			if s, c := r.Of(n); !slices.EqualFunc(s, services[8*n:8*n+8], same) || !slices.Equal(c, checks[8*n:8*n+8]) {
				t.Fatalf("Of(%d) = %+v, %+v", n, s, c)
			}
			if r.Nodes()[n].Node != n {
				t.Fatalf("Nodes = %+v", r.Nodes())
			}
		}
	}
}

// shuffled is the numbers from 0 to n-1 in any order.
func shuffled(n int, c *chance) []int {
	l := make([]int, n)
	for i := range l {
		k := c.below(i + 1)
		l[i] = l[k]
		l[k] = i
	}
	return l
}

// P19.4: Of has a node's services and checks, and nothing of any other number.
func TestP194Of(t *testing.T) {
	r, m := sample(t)
	for _, n := range ints() {
		ofNode(t, r, m, n)
		s, c := r.Of(n)
		want := map[int][2]int{0: {1, 1}, 1: {2, 3}, 7: {1, 2}}[n]
		if len(s) != want[0] || len(c) != want[1] {
			t.Fatalf("Of(%d) = %+v, %+v", n, s, c)
		}
	}
	s, c := r.Of(7)
	if !same(s[0], api.Service{Node: 7, Id: "b", Name: "x", Port: 80, Make: 9, Index: 9}) || c[0] != (api.Check{Node: 7, Id: "a", Service: "b", Status: warning, Make: 15, Index: 15}) || c[1] != (api.Check{Node: 7, Id: "z", Make: 14, Index: 14}) {
		t.Fatalf("Of(7) = %+v, %+v", s, c)
	}
}

// P19.4: a copy has all that there is, the capacity too, and each goes on by itself.
func TestP194Copy(t *testing.T) {
	c := chance(2)
	for range 30 {
		r, m := both(t, 1+c.below(9))
		for range c.below(50) {
			doBoth(t, r, m, c.any(c.number(40)))
		}
		other, n := r.Copy(), m.copy()
		agree(t, other, n)
		for range 30 {
			doBoth(t, r, m, c.any(c.number(40)))
			agree(t, other, n)
			doBoth(t, other, n, c.any(c.number(40)))
			agree(t, r, m)
		}
	}
	empty, m := both(t, 1)
	other, n := empty.Copy(), m.copy()
	for _, x := range []call{laysNode(1, "", 1), lays(1, "a", 1), laysCheck(1, "a", "", 1, 1)} {
		must(t, other, n, x, api.OK)
	}
	for _, x := range []call{laysNode(2, "", 2), lays(1, "b", 2), laysCheck(1, "b", "", 1, 2)} {
		must(t, other, n, x, errFull)
	}
	agree(t, empty, m)
}

// P19.5: the health of a service is the worst of the node's own checks and its own, for each two statuses of each kind.
func TestP195Health(t *testing.T) {
	r, m := both(t, 9)
	must(t, r, m, laysNode(2, "", 1), api.OK)
	must(t, r, m, laysNode(3, "", 1), api.OK)
	for _, id := range []string{"one", "two"} {
		must(t, r, m, lays(2, id, 2), api.OK)
		must(t, r, m, lays(3, id, 2), api.OK)
	}
	health := func(node int, service string, want int) {
		t.Helper()
		if got := r.Health(node, service); got != want {
			t.Fatalf("Health(%d, %q) = %d, want %d, of %+v", node, service, got, want, r.Checks())
		}
	}
	for _, n := range append(ints(), 2, 3) {
		for _, s := range append(append(names(), noNames()...), "", "one", "two") {
			health(n, s, passing)
		}
	}
	for own := range 4 {
		for one := range 4 {
			for two := range 4 {
				for _, first := range []string{"a", "z"} {
					must(t, r, m, laysCheck(2, first, "", own, 3), api.OK)
					must(t, r, m, laysCheck(2, "m", "one", one, 3), api.OK)
					must(t, r, m, laysCheck(2, "n", "two", two, 3), api.OK)
					must(t, r, m, laysCheck(3, "m", "one", maint, 3), api.OK)
					health(2, "one", max(own, one))
					health(2, "two", max(own, two))
					health(2, "", own)
					health(2, "three", own)
					health(2, "on", own)
					health(2, "one/", own)
					health(3, "one", maint)
					health(3, "two", passing)
					health(4, "one", passing)
					health(-2, "one", passing)
					health(23, "one", passing)
					must(t, r, m, dropsCheck(2, first, 3), api.OK)
					health(2, "one", one)
				}
			}
		}
	}
}

// P19.5: any number of checks, whichever of them is the worst.
func TestP195Many(t *testing.T) {
	for worst := range 9 {
		for _, of := range []string{"", "a", "b"} {
			for status := range 4 {
				r, m := both(t, 9)
				for _, c := range []call{laysNode(0, "", 1), lays(0, "a", 1), lays(0, "b", 1)} {
					must(t, r, m, c, api.OK)
				}
				for i := range 9 {
					c := laysCheck(0, string(rune('a'+i)), "a", min(status, warning), 1)
					if i == worst {
						c = laysCheck(0, string(rune('a'+i)), of, status, 1)
					}
					must(t, r, m, c, api.OK)
				}
				want := min(status, warning)
				if of != "b" {
					want = status
				}
				if got := r.Health(0, "a"); got != want {
					t.Fatalf("Health = %d, want %d", got, want)
				}
			}
		}
	}
}

// rows is rows that may be loaded, with last indexes from {60, 80, 90} on.
func rows() ([]api.Node, []api.Service, []api.Check) {
	nodes := []api.Node{{Node: 0, Addr: "zero", Make: 3, Index: 60}, {Node: 1, Make: 7, Index: 7}, {Node: 5, Addr: strings.Repeat("x", mostNote), Index: 1}, {Node: 7, Addr: "\x00"}}
	services := []api.Service{
		{Node: 0, Id: "a", Name: "web", Tags: []string{"x", "y"}, Port: mostPort, Make: 1, Index: 80},
		{Node: 0, Id: "b", Name: "web", Make: 70, Index: 70},
		{Node: 1, Id: "a", Name: "db", Tags: []string{"a", "b", "c", "d"}, Port: 1, Make: 2, Index: 3},
		{Node: 7, Id: "0", Name: "x", Index: 5},
	}
	checks := []api.Check{
		{Node: 0, Id: "a", Note: "note", Status: maint, Make: 1, Index: 90},
		{Node: 0, Id: "c", Service: "b", Status: critical, Make: 80, Index: 81},
		{Node: 1, Id: "a", Service: "a", Note: strings.Repeat("n", mostNote), Status: warning, Index: 1},
		{Node: 1, Id: "b", Service: "a"},
		{Node: 5, Id: "a", Make: 9, Index: 9},
	}
	return nodes, services, checks
}

// lasts is the last indexes of those rows.
func lasts() [3]uint64 {
	return [3]uint64{60, 80, 90}
}

// loaded fails where rows that may be loaded are not, with all that they have.
func loaded(t *testing.T, most int, nodes []api.Node, services []api.Service, checks []api.Check, last [3]uint64) (*roster.Roster, *told) {
	t.Helper()
	m := (&told{clamped(most), last, nodes, services, checks}).copy()
	r, err := roster.Load(most, nodes, services, checks, last)
	if err != api.OK || r == nil {
		t.Fatalf("Load(%d, %+v, %+v, %+v, %d) = %v, %d", most, nodes, services, checks, last, r, err)
	}
	if !slices.Equal(nodes, m.nodes) || !slices.EqualFunc(services, m.services, same) || !slices.Equal(checks, m.checks) {
		t.Fatalf("Load turned its arguments to %+v, %+v, %+v", nodes, services, checks)
	}
	agree(t, r, m)
	return r, m
}

// unloaded fails where rows that may not be loaded are.
func unloaded(t *testing.T, most int, nodes []api.Node, services []api.Service, checks []api.Check, last [3]uint64) {
	t.Helper()
	if r, err := roster.Load(most, nodes, services, checks, last); r != nil || err != errArg {
		t.Fatalf("Load(%d, %+v, %+v, %+v, %d) = %v, %d", most, nodes, services, checks, last, r, err)
	}
}

// may loads rows, which must do if they may be so.
func may(t *testing.T, is bool, most int, nodes []api.Node, services []api.Service, checks []api.Check, last [3]uint64) {
	t.Helper()
	if is {
		loaded(t, most, nodes, services, checks, last)
	} else {
		unloaded(t, most, nodes, services, checks, last)
	}
}

// P19.6: Load has exactly the rows, with all their fields, and the last indexes, and goes on from there.
func TestP196Load(t *testing.T) {
	nodes, services, checks := rows()
	for n := range len(checks) + 1 {
		for _, last := range [][3]uint64{lasts(), {61, 82, 93}, {greatest, greatest, greatest}, {60, 80, greatest}, {1 << 40, 80, 90}} {
			r, m := loaded(t, 5, nodes, services, checks[:n], last)
			loaded(t, 5, nodes, services, checks[n:], last)
			must(t, r, m, laysNode(5, "y", 2), api.OK)
			must(t, r, m, laysNode(2, "y", 3), api.OK)
			must(t, r, m, lays(1, "a", 4), api.OK)
			must(t, r, m, lays(1, "b", 4), api.OK)
			must(t, r, m, lays(1, "c", 4), errFull)
			must(t, r, m, dropsNode(1, 5), api.OK)
		}
	}
	loaded(t, 5, nodes, services[:0], nil, lasts())
	loaded(t, 5, nodes[:0], nil, nil, lasts())
	for _, one := range few() {
		for _, two := range few() {
			loaded(t, 3, nil, nil, nil, [3]uint64{one, two, 7})
			loaded(t, 3, []api.Node{}, []api.Service{}, []api.Check{}, [3]uint64{7, one, two})
		}
	}
	for n := range mostNodes {
		for i, addr := range texts() {
			may(t, len(addr) <= mostNote, i%9, []api.Node{{Node: n, Addr: addr}}, nil, nil, [3]uint64{})
		}
	}
}

// P19.6: the indexes of a row of each table: Make may not be greater than Index, nor Index greater than the last one of that table.
func TestP196Indexes(t *testing.T) {
	for table := range 3 {
		for _, last := range few() {
			for _, first := range few() {
				for _, index := range few() {
					nodes := []api.Node{{Node: 4}}
					services := []api.Service{{Node: 4, Id: "s", Name: "s"}}
					checks := []api.Check{{Node: 4, Id: "c", Service: "s"}}
					switch table {
					case 0:
						nodes[0].Make, nodes[0].Index = first, index
					case 1:
						services[0].Make, services[0].Index = first, index
					case 2:
						checks[0].Make, checks[0].Index = first, index
					}
					lasts := [3]uint64{}
					lasts[table] = last
					may(t, first <= index && index <= last, 2, nodes, services, checks, lasts)
				}
			}
		}
	}
	nodes, services, checks := rows()
	for table := range 3 {
		last := lasts()
		last[table]--
		unloaded(t, 9, nodes, services, checks, last)
		last = lasts()
		last[table] = 0
		unloaded(t, 9, nodes, services, checks, last)
	}
}

// rise asks whether a list rises strictly by node and then by Id.
func rise[T any](l []T, of func(T) (int, string)) bool {
	for i := range l {
		if i == 0 {
			continue
		}
		node, id := of(l[i])
		before, last := of(l[i-1])
		if before > node || before == node && last >= id {
			return false
		}
	}
	return true
}

// isThere asks whether a number is one of the nodes that are loaded.
func isThere(node int) bool {
	return slices.Contains([]int{0, 1, 5, 7}, node)
}

// P19.6: nodes that may not be, at each place, and those that are out of order or stand twice.
func TestP196Nodes(t *testing.T) {
	nodes, services, checks := rows()
	for at := range nodes {
		for _, n := range ints() {
			l := slices.Clone(nodes)
			l[at].Node = n
			good := right(n) && rise(l, func(x api.Node) (int, string) { return x.Node, "" })
			may(t, good, 9, l, nil, nil, lasts())
			// Each of the nodes has a service or a check, which would be left without it.
			may(t, n == nodes[at].Node, 9, l, services, checks, lasts())
		}
		l := slices.Clone(nodes)
		l[at].Addr = strings.Repeat("x", mostNote+1)
		unloaded(t, 9, l, services, checks, lasts())
		unloaded(t, 9, slices.Insert(slices.Clone(nodes), at, nodes[at]), nil, nil, lasts())
		unloaded(t, 9, append(slices.Clone(nodes), nodes[at]), nil, nil, lasts())
		unloaded(t, 9, slices.Delete(slices.Clone(nodes), at, at+1), services, checks, lasts())
		for other := range at {
			l := slices.Clone(nodes)
			l[at], l[other] = l[other], l[at]
			unloaded(t, 9, l, services, checks, lasts())
		}
	}
}

// P19.6: services that may not be, at each place, and those that are out of order or stand twice, or whose node is not there.
func TestP196Services(t *testing.T) {
	nodes, services, checks := rows()
	for at := range services {
		turned := func(turn func(*api.Service)) []api.Service {
			l := cloned(services)
			turn(&l[at])
			return l
		}
		for _, n := range ints() {
			l := turned(func(s *api.Service) { s.Node = n })
			good := isThere(n) && rise(l, func(s api.Service) (int, string) { return s.Node, s.Id })
			may(t, good, 9, nodes, l, nil, lasts())
		}
		for _, id := range append(noNames(), "") {
			unloaded(t, 9, nodes, turned(func(s *api.Service) { s.Id = id }), nil, lasts())
			unloaded(t, 9, nodes, turned(func(s *api.Service) { s.Name = id }), checks, lasts())
		}
		for _, port := range ints() {
			may(t, port >= 0 && port <= mostPort, 9, nodes, turned(func(s *api.Service) { s.Port = port }), checks, lasts())
		}
		for _, tags := range append(tagLists(), noTags()...) {
			may(t, isTags(tags), 9, nodes, turned(func(s *api.Service) { s.Tags = tags }), checks, lasts())
		}
		unloaded(t, 9, nodes, slices.Insert(cloned(services), at, services[at]), checks, lasts())
		unloaded(t, 9, nodes, append(cloned(services), services[at]), checks, lasts())
		for other := range at {
			l := cloned(services)
			l[at], l[other] = l[other], l[at]
			unloaded(t, 9, nodes, l, checks, lasts())
		}
	}
}

// P19.6: checks that may not be, at each place, and those that are out of order or stand twice, or whose node or service is not there.
func TestP196Checks(t *testing.T) {
	nodes, services, checks := rows()
	for at := range checks {
		turned := func(turn func(*api.Check)) []api.Check {
			l := slices.Clone(checks)
			turn(&l[at])
			return l
		}
		for _, id := range append(noNames(), "") {
			unloaded(t, 9, nodes, services, turned(func(c *api.Check) { c.Id = id }), lasts())
			may(t, id == "", 9, nodes, services, turned(func(c *api.Check) { c.Service = id }), lasts())
		}
		for _, id := range []string{"a", "b", "0", "web", "db", "c"} {
			of := checks[at].Node
			good := of == 0 && (id == "a" || id == "b") || of == 1 && id == "a"
			may(t, good, 9, nodes, services, turned(func(c *api.Check) { c.Service = id }), lasts())
		}
		for _, status := range ints() {
			may(t, status >= passing && status <= maint, 9, nodes, services, turned(func(c *api.Check) { c.Status = status }), lasts())
		}
		for _, note := range texts() {
			may(t, len(note) <= mostNote, 9, nodes, services, turned(func(c *api.Check) { c.Note = note }), lasts())
		}
		for _, n := range ints() {
			l := turned(func(c *api.Check) { c.Node, c.Service = n, "" })
			good := isThere(n) && rise(l, func(c api.Check) (int, string) { return c.Node, c.Id })
			may(t, good, 9, nodes, services, l, lasts())
		}
		unloaded(t, 9, nodes, services, slices.Insert(slices.Clone(checks), at, checks[at]), lasts())
		unloaded(t, 9, nodes, services, append(slices.Clone(checks), checks[at]), lasts())
		for other := range at {
			l := slices.Clone(checks)
			l[at], l[other] = l[other], l[at]
			unloaded(t, 9, nodes, services, l, lasts())
		}
	}
	for at := range services {
		l := slices.Delete(cloned(services), at, at+1)
		// The services b of node 0 and a of node 1 have checks.
		may(t, at == 0 || at == 3, 9, nodes, l, checks, lasts())
	}
}

// P19.6: as many rows of each table as the capacity allows, for each capacity and those beyond its bounds.
func TestP196Most(t *testing.T) {
	var nodes []api.Node
	var services []api.Service
	var checks []api.Check
	for n := range mostNodes {
		nodes = append(nodes, api.Node{Node: n, Make: 1, Index: 1})
	}
	for i := range mostRows + 6 {
		id := string(rune('a'+i/10)) + string(rune('0'+i%10))
		services = append(services, api.Service{Id: id, Name: "x", Make: 1, Index: 1})
		checks = append(checks, api.Check{Id: id, Make: 1, Index: 1})
	}
	for _, most := range ints() {
		room := clamped(most)
		last := [3]uint64{1, 1, 1}
		some := nodes[:min(room, mostNodes)]
		r, m := loaded(t, most, some, services[:room], checks[:room], last)
		must(t, r, m, lays(0, "z", 2), errFull)
		must(t, r, m, laysCheck(0, "z", "", 0, 2), errFull)
		r, m = loaded(t, most, some, services[:room-1], checks[:room-1], last)
		must(t, r, m, lays(0, "z", 2), api.OK)
		must(t, r, m, laysCheck(0, "z", "", 0, 2), api.OK)
		if room < mostNodes {
			unloaded(t, most, nodes[:room+1], nil, nil, last)
			must(t, r, m, laysNode(7, "", 2), errFull)
		}
		unloaded(t, most, some, services[:room+1], nil, last)
		unloaded(t, most, some, nil, checks[:room+1], last)
	}
}

// P19.6: a roster that is loaded from its rows and last indexes is equal, and does the same from then on.
func TestP196Loaded(t *testing.T) {
	c := chance(3)
	for range 20 {
		most := c.below(20) - 1
		r, m := both(t, most)
		// Only where indexes do not fall, no row's Make exceeds its Index.
		for i := range uint64(80) {
			doBoth(t, r, m, c.any(i/3))
		}
		other, err := roster.Load(most, r.Nodes(), r.Services(), r.Checks(), r.Last())
		if err != api.OK {
			t.Fatalf("Load: error %d", err)
		}
		n := m.copy()
		agree(t, other, n)
		for range 40 {
			x := c.any(c.number(80))
			doBoth(t, r, m, x)
			doBoth(t, other, n, x)
		}
	}
}

// P19.6: a roster that is not there, or that no call made, has ErrNil, whatever else is wrong, and does nothing else.
func TestP196NoRoster(t *testing.T) {
	var all []call
	c := chance(5)
	for range 300 {
		all = append(all, c.any(c.number(30)))
	}
	long := strings.Repeat("x", mostNote+1)
	all = append(all, laysNode(-1, long, 1), laysNode(1, "", 1), lays(9, "A", 0), laysCheck(-3, "", "*", 7, 8))
	all = append(all, calls()...)
	for _, r := range []*roster.Roster{nil, {}, new(roster.Roster)} {
		for range 2 {
			for _, c := range all {
				if err := c.do(r); err != errNil {
					t.Fatalf("%+v = %d, want ErrNil", c, err)
				}
			}
			for _, n := range ints() {
				s, c := r.Of(n)
				if len(s)+len(c) > 0 || r.Health(n, "a") != 0 || r.Health(n, "") != 0 {
					t.Fatalf("Of(%d) = %+v, %+v", n, s, c)
				}
			}
			if len(r.Nodes())+len(r.Services())+len(r.Checks()) > 0 || r.Last() != [3]uint64{} || r.Copy() != nil {
				t.Fatalf("%+v, %+v, %+v, %d, %v", r.Nodes(), r.Services(), r.Checks(), r.Last(), r.Copy())
			}
		}
	}
}

// P19.7: through any calls the node of every service is there, and the node and the service of every check.
func TestP197There(t *testing.T) {
	c := chance(4)
	for range 60 {
		r, m := both(t, c.below(12)-1)
		for range 60 {
			x := c.any(c.number(30))
			doBoth(t, r, m, x)
			there := map[int]int{}
			for _, n := range r.Nodes() {
				there[n.Node]++
			}
			for _, s := range r.Services() {
				if there[s.Node] != 1 {
					t.Fatalf("behind %+v there is %+v of none of %+v", x, s, r.Nodes())
				}
			}
			for _, k := range r.Checks() {
				services, _ := r.Of(k.Node)
				of := slices.ContainsFunc(services, func(s api.Service) bool { return s.Id == k.Service })
				if there[k.Node] != 1 || k.Service != "" && !of {
					t.Fatalf("behind %+v there is %+v of none of %+v", x, k, services)
				}
			}
		}
	}
}

// P19.7: one more check does not improve the health of anything, wherever it is, and whatever its status.
func TestP197Health(t *testing.T) {
	r, m := sample(t)
	for _, n := range []int{0, 1, 3, 7} {
		services, _ := r.Of(n)
		for _, s := range append(services, api.Service{}) {
			for status := range 4 {
				for _, id := range []string{"0", "more", "zz"} {
					other, o := r.Copy(), m.copy()
					must(t, other, o, laysCheck(n, id, s.Id, status, 40), api.OK)
					for of := range mostNodes {
						for _, service := range []string{"", "web-1", "a", "b", "none"} {
							was, is := r.Health(of, service), other.Health(of, service)
							mine := of == n && (s.Id == "" || s.Id == service)
							if is < was || mine && is != max(was, status) || !mine && is != was {
								t.Fatalf("a check of node %d and %q that is %d turns Health(%d, %q) from %d to %d", n, s.Id, status, of, service, was, is)
							}
						}
					}
				}
			}
		}
	}
}

// P19.1 to P19.3: each function with each kind of number and text, with room and without; what is refused leaves no trace.
func TestErrors(t *testing.T) {
	for _, begin := range []func(*testing.T) (*roster.Roster, *told){sample, full} {
		r, m := begin(t)
		for _, n := range []int{-1, 0, 1, 2, 3, 7, 8, 10, math.MaxInt, math.MinInt} {
			for _, id := range []string{"", "web-1", "a", "c", "zz", "A", "1/a", strings.Repeat("a", 33)} {
				for _, index := range []uint64{0, 3, 40, greatest} {
					for _, c := range []call{
						laysNode(n, id, index), dropsNode(n, index), lays(n, id, index), drops(n, id, index), dropsCheck(n, id, index),
						laysCheck(n, "c", id, warning, index), laysCheck(n, id, "web-1", critical, index), laysCheck(n, id, "", maint, index), laysCheck(n, "d", id, maint+1, index),
					} {
						doBoth(t, r.Copy(), m.copy(), c)
					}
				}
			}
		}
		agree(t, r, m)
	}
}

// P19.1 to P19.5: through any calls a roster does as the chapter's words have it.
func TestAny(t *testing.T) {
	c := chance(7)
	for range 100 {
		r, m := both(t, c.below(14)-1)
		for n := range c.below(4) {
			doBoth(t, r, m, laysNode([]int{0, 1, 7}[n%3], "", 1))
		}
		for range 80 {
			doBoth(t, r, m, c.any(c.number(30)))
		}
	}
}

// blot overwrites all that a roster's answers have, as far as their memory goes.
func blot(r *roster.Roster) {
	for range 2 {
		of := r.Services()
		s, c := r.Of(1)
		for _, l := range [][]api.Service{of[:cap(of)], s[:cap(s)]} {
			for i := range l {
				for k := range l[i].Tags[:cap(l[i].Tags)] {
					l[i].Tags[:cap(l[i].Tags)][k] = "blot"
				}
			}
			clear(l)
		}
		nodes, checks := r.Nodes(), r.Checks()
		clear(nodes[:cap(nodes)])
		clear(checks[:cap(checks)])
		clear(c[:cap(c)])
	}
}

// R3: what the functions answer shares no memory with the roster, nor with another answer, and tags none with one another.
func TestResults(t *testing.T) {
	nodes, services, checks := rows()
	r, m := loaded(t, 9, nodes, services, checks, lasts())
	other, n := r.Copy(), m.copy()
	all := r.Services()
	one, of := r.Of(1)
	for range 3 {
		blot(r)
		blot(other)
		agree(t, r, m)
		agree(t, other, n)
		if !slices.EqualFunc(all, m.services, same) || !same(one[0], m.services[2]) || of[0] != m.checks[2] {
			t.Fatalf("an answer was changed by way of another: %+v, %+v", all, one)
		}
	}
	for i := range all {
		tags := append(all[i].Tags, "blot")
		clear(tags)
		for k := range all {
			if k > i && !slices.Equal(all[k].Tags, m.services[k].Tags) {
				t.Fatalf("the tags of service %d were changed by way of those of service %d: %q", k, i, all[k].Tags)
			}
		}
	}
	agree(t, r, m)
}

// R3: Service and Load keep nothing of their arguments, and do not write to them, nor behind their ends.
func TestArgument(t *testing.T) {
	spare := []string{"a", "b", "c", "d"}
	s := api.Service{Node: 1, Id: "s", Name: "x", Tags: spare[:2], Make: 8, Index: 9}
	r, m := sample(t)
	must(t, r, m, call{of: service, s: s, index: 30}, api.OK)
	if !slices.Equal(spare, []string{"a", "b", "c", "d"}) {
		t.Fatalf("the argument was turned to %q", spare)
	}
	spare[0], spare[1] = "y", "z"
	agree(t, r, m)
	must(t, r, m, call{of: service, s: s, index: 31}, api.OK)
	clear(spare)
	agree(t, r, m)

	nodes, services, checks := rows()
	r, m = loaded(t, 9, nodes[:3], services[:3], checks[:4], lasts())
	unloaded(t, 2, nodes[:3], services[:3], checks[:4], lasts())
	n, o, p := rows()
	if !slices.Equal(nodes, n) || !slices.EqualFunc(services, o, same) || !slices.Equal(checks, p) {
		t.Fatalf("the arguments were turned to %+v, %+v, %+v", nodes, services, checks)
	}
	for i := range services {
		clear(services[i].Tags)
	}
	clear(nodes)
	clear(services)
	clear(checks)
	agree(t, r, m)
	for _, c := range []call{lays(1, "t", 85), laysCheck(1, "t", "t", warning, 95), dropsNode(0, 99)} {
		must(t, r, m, c, api.OK)
	}
	if !slices.Equal(nodes, make([]api.Node, 4)) || !slices.EqualFunc(services, make([]api.Service, 4), same) || !slices.Equal(checks, make([]api.Check, 5)) {
		t.Fatalf("a roster that was loaded wrote into %+v, %+v, %+v", nodes, services, checks)
	}
}

// R4: two rosters share nothing, be they made, or loaded from the same rows.
func TestTwo(t *testing.T) {
	nodes, services, checks := rows()
	c := chance(8)
	one, m := both(t, 5)
	two, n := loaded(t, 8, nodes, services, checks, lasts())
	three, o := loaded(t, 8, nodes, services, checks, lasts())
	for range 100 {
		doBoth(t, one, m, c.any(c.number(40)))
		agree(t, two, n)
		doBoth(t, two, n, c.any(c.number(40)))
		agree(t, three, o)
		doBoth(t, three, o, c.any(c.number(40)))
		agree(t, one, m)
	}
}

// R3: an answer stays as it is, whatever is done later.
func TestKept(t *testing.T) {
	nodes, services, checks := rows()
	r, m := loaded(t, 9, nodes, services, checks, lasts())
	n, s, k := r.Nodes(), r.Services(), r.Checks()
	of, also := r.Of(1)
	want := m.copy()
	c := chance(10)
	for range 200 {
		doBoth(t, r, m, c.any(c.number(99)))
		if !slices.Equal(n, want.nodes) || !slices.EqualFunc(s, want.services, same) || !slices.Equal(k, want.checks) || len(of) != 1 || !same(of[0], want.services[2]) || !slices.Equal(also, want.checks[2:4]) {
			t.Fatalf("an answer was changed: %+v, %+v, %+v, %+v, %+v", n, s, k, of, also)
		}
	}
}
