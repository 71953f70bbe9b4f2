package intent_test

import (
	"math"
	"slices"
	"sort"
	"strconv"
	"strings"
	"testing"

	"sodality/api"
	"sodality/intent"
)

// The numbers of the chapter and of the words it leans on: how many intentions there may be, the bytes of names, the errors, and the greatest index.
const (
	mostRows = 64
	mostName = 24
	errNil   = 1
	errArg   = 2
	errNone  = 4
	errFull  = 5
	errName  = 10
	errTwice = 20
	errCas   = 21
	greatest = math.MaxUint64
)

// ints is numbers of any kind: those around the limit of rows, and where integers of any width end.
func ints() []int {
	l := []int{math.MinInt, math.MinInt + 1, math.MinInt32, math.MaxInt32, math.MaxInt - 1, math.MaxInt, -256, 255, 256, 1 << 32, 1<<32 + 3, -1 << 32, 1 << 62}
	for n := -9; n <= 70; n++ {
		l = append(l, n)
	}
	return l
}

// numbers is small indexes, and those around where narrower numbers end or turn their sign.
func numbers() []uint64 {
	return []uint64{0, 1, 2, 3, 255, 256, 1<<31 - 1, 1 << 31, 1<<32 - 1, 1 << 32, 1<<53 + 1, 1<<63 - 1, 1 << 63, greatest - 1, greatest}
}

// eight is patterns of which every two make an intention: as many as there may be. Some run into one another where they are joined.
func eight() []string {
	return []string{"*", "a", "a-b", "a--b", "a-b-a", "b", "b-a", "aa"}
}

// patterns is texts that are patterns by chapter 1.
func patterns() []string {
	return append(eight(), "web", "db", "web-1", "0", "a0", "z9", "0-0", "ab", "bb",
		strings.Repeat("a", mostName-1), strings.Repeat("a", mostName), "a"+strings.Repeat("-", mostName-2)+"b")
}

// others is texts that are no patterns by chapter 1.
func others() []string {
	return []string{
		"", "**", "*a", "a*", " *", "* ", "-", "-a", "a-", "-*", "A", "aB", "a b", " a", "a/b", "/", "a/", "/a", "*/*", "a.b", "a_b", "a:b", "a\x00", "\x00", "*\x00",
		"\xff", "a\xff", "\xc3\xa4", "`", "{", "@", "[", "+", ",", "web\n",
		strings.Repeat("a", mostName+1), strings.Repeat("*", mostName), strings.Repeat("a", mostName) + "*", strings.Repeat("a", 256+mostName), strings.Repeat("a", 1<<16),
		"a" + strings.Repeat("-", mostName-1), "a" + strings.Repeat("-", mostName-1) + "b",
	}
}

// chance is numbers that follow from a seed.
type chance uint64

// below is the next number, from 0 to n-1.
func (c *chance) below(n int) int {
	*c = *c*6364136223846793005 + 1442695040888963407
	return int(uint64(*c)>>33) % n
}

// one is any of some texts.
func (c *chance) one(l []string) string {
	return l[c.below(len(l))]
}

// number is any number: mostly one of the few below, so that they often meet.
func (c *chance) number(few int) uint64 {
	if c.below(12) == 0 {
		return numbers()[c.below(len(numbers()))]
	}
	return uint64(c.below(few))
}

// intention is any intention, mostly one that may be.
func (c *chance) intention() api.Intention {
	side := func() string {
		if c.below(9) == 0 {
			return c.one(others())
		}
		return c.one(eight()[:4])
	}
	return api.Intention{Src: side(), Dst: side(), Allow: c.below(2) == 0, Make: c.number(9), Index: c.number(9)}
}

// The functions that modify.
const (
	add  = "Add"
	turn = "Turn"
	drop = "Drop"
)

// all is the functions that modify.
func all() []string {
	return []string{add, turn, drop}
}

// call is a call that modifies: each function takes some of the fields.
type call struct {
	of         string
	src, dst   string
	allow      bool
	old, index uint64
}

// do is the call at intentions.
func (c call) do(t *intent.Intents) api.Errno {
	switch c.of {
	case add:
		return t.Add(c.src, c.dst, c.allow, c.index)
	case turn:
		return t.Turn(c.src, c.dst, c.allow, c.old, c.index)
	}
	return t.Drop(c.src, c.dst, c.old, c.index)
}

// any is any call.
func (c *chance) any(index uint64) call {
	x := call{of: c.one(append(all(), add, turn)), src: c.one(eight()[:5]), dst: c.one(eight()[:5]), allow: c.below(2) == 0, index: index}
	if c.below(3) == 0 {
		x.old = c.number(20)
	}
	switch c.below(20) {
	case 0:
		x.src = c.one(others())
	case 1:
		x.dst = c.one(others())
	case 2, 3:
		x.src, x.dst = c.one(patterns()), c.one(patterns())
	}
	return x
}

// told is intentions by the words of the chapter: their capacity, the last index, and the intentions in no order.
type told struct {
	most int
	last uint64
	l    []api.Intention
}

// isName is what P1.1 says of a name.
func isName(s string) bool {
	for i := range len(s) {
		if strings.IndexByte("abcdefghijklmnopqrstuvwxyz0123456789-", s[i]) < 0 {
			return false
		}
	}
	return len(s) >= 1 && len(s) <= mostName && s[0] != '-' && s[len(s)-1] != '-'
}

// isPattern is what P1.1 says of a pattern.
func isPattern(s string) bool {
	return s == "*" || isName(s)
}

// takes is what P1.1 says of a pattern and a name.
func takes(p, s string) bool {
	return isName(s) && (p == "*" || p == s)
}

// place is where the intention of a source and a destination is, or -1.
func (m *told) place(src, dst string) int {
	return slices.IndexFunc(m.l, func(i api.Intention) bool { return i.Src == src && i.Dst == dst })
}

// wrong is what P17.1 says of the errors of each function, in order.
func (m *told) wrong(c call) api.Errno {
	at := m.place(c.src, c.dst)
	switch {
	case !isPattern(c.src) || !isPattern(c.dst):
		return errName
	case c.of == add && at >= 0:
		return errTwice
	case c.of == add && len(m.l) == m.most:
		return errFull
	case c.of != add && at < 0:
		return errNone
	case c.of != add && c.old != 0 && c.old != m.l[at].Index:
		return errCas
	}
	return api.OK
}

// do is what P17.1 says of a call.
func (m *told) do(c call) api.Errno {
	if err := m.wrong(c); err != api.OK {
		return err
	}
	at := m.place(c.src, c.dst)
	switch c.of {
	case add:
		m.l = append(m.l, api.Intention{Src: c.src, Dst: c.dst, Allow: c.allow, Make: c.index, Index: c.index})
	case turn:
		m.l[at].Allow, m.l[at].Index = c.allow, c.index
	case drop:
		m.l = slices.Delete(m.l, at, at+1)
	}
	if c.index > m.last {
		m.last = c.index
	}
	return api.OK
}

// rank is what the chapter's definition says of a rank.
func rank(i api.Intention) int {
	src, dst := i.Src == "*", i.Dst == "*"
	switch {
	case !src && !dst:
		return 3
	case src && !dst:
		return 2
	case !src && dst:
		return 1
	}
	return 0
}

// list is what P17.2 says of List.
func (m *told) list() []api.Intention {
	var l []api.Intention
	for r := 3; r >= 0; r-- {
		begin := len(l)
		for _, i := range m.l {
			if rank(i) == r {
				l = append(l, i)
			}
		}
		part := l[begin:]
		sort.Slice(part, func(i, k int) bool {
			if part[i].Dst == part[k].Dst {
				return part[i].Src < part[k].Src
			}
			return part[i].Dst < part[k].Dst
		})
	}
	return l
}

// forDst is what P17.2 says of For.
func (m *told) forDst(dst string) []api.Intention {
	return slices.DeleteFunc(m.list(), func(i api.Intention) bool { return !takes(i.Dst, dst) })
}

// choose is what P17.3 says of Choose.
func choose(l []api.Intention, src, dst string, def bool) (bool, int) {
	for r := 3; r >= 0; r-- {
		for at, i := range l {
			if rank(i) == r && takes(i.Src, src) && takes(i.Dst, dst) {
				return i.Allow, at
			}
		}
	}
	return def, -1
}

// copy is others of which all is as of these.
func (m *told) copy() *told {
	return &told{m.most, m.last, slices.Clone(m.l)}
}

// clamped is what P15.1 says of a capacity.
func clamped(most int) int {
	if most < 1 {
		return 1
	}
	if most > mostRows {
		return mostRows
	}
	return most
}

// both is no intentions, and none by the chapter's words.
func both(t *testing.T, most int) (*intent.Intents, *told) {
	t.Helper()
	x := intent.New(most)
	if x == nil {
		t.Fatalf("New(%d) = nil", most)
	}
	return x, &told{most: clamped(most)}
}

// agree fails where intentions tell something else than the chapter's words.
func agree(t *testing.T, x *intent.Intents, m *told) {
	t.Helper()
	if got := x.Last(); got != m.last {
		t.Fatalf("Last = %d, want %d", got, m.last)
	}
	l := m.list()
	if got := x.List(); !slices.Equal(got, l) {
		t.Fatalf("List = %v, want %v", got, l)
	}
	sides := []string{"*", "a", "a-b", "b", "web"}
	for _, dst := range sides {
		if got, want := x.For(dst), m.forDst(dst); !slices.Equal(got, want) {
			t.Fatalf("For(%q) = %v, want %v", dst, got, want)
		}
		for _, src := range sides {
			for _, def := range []bool{false, true} {
				got, is := x.Decide(src, dst, def)
				if want, at := choose(l, src, dst, def); got != want || is != (at >= 0) {
					t.Fatalf("Decide(%q, %q, %t) = %t, %t, want %t, %t, of %v", src, dst, def, got, is, want, at >= 0, l)
				}
			}
		}
	}
}

// doBoth does a call at both, which must answer the same.
func doBoth(t *testing.T, x *intent.Intents, m *told, c call) api.Errno {
	t.Helper()
	before := m.list()
	err := c.do(x)
	if want := m.do(c); err != want {
		t.Fatalf("%+v = %d, want %d, of %v", c, err, want, before)
	}
	agree(t, x, m)
	return err
}

// must does a call at both, which must be done.
func must(t *testing.T, x *intent.Intents, m *told, c call) {
	t.Helper()
	refused(t, x, m, c, api.OK)
}

// refused does a call at both, which must be refused with an error.
func refused(t *testing.T, x *intent.Intents, m *told, c call, want api.Errno) {
	t.Helper()
	if err := doBoth(t, x, m, c); err != want {
		t.Fatalf("%+v = %d, want %d", c, err, want)
	}
}

// pairs is every two of eight patterns: as many intentions as there may be, in no order.
func pairs() []call {
	var l []call
	for i, src := range eight() {
		for k, dst := range eight() {
			l = append(l, call{of: add, src: src, dst: dst, allow: (i+k)%3 == 0, index: uint64(10 + i*8 + k)})
		}
	}
	c := chance(9)
	for i := range l {
		k := c.below(i + 1)
		l[i], l[k] = l[k], l[i]
	}
	return l
}

// filled is both, full.
func filled(t *testing.T, most int) (*intent.Intents, *told) {
	t.Helper()
	x, m := both(t, most)
	for _, c := range pairs()[:most] {
		c.do(x)
		m.do(c)
	}
	agree(t, x, m)
	return x, m
}

// sample is both with room for one more, and with an intention of each rank.
func sample(t *testing.T) (*intent.Intents, *told) {
	t.Helper()
	x, m := both(t, 5)
	must(t, x, m, call{of: add, src: "*", dst: "*", allow: true, index: 3})
	must(t, x, m, call{of: add, src: "a", dst: "*", index: 4})
	must(t, x, m, call{of: add, src: "*", dst: "b", allow: true, index: 5})
	must(t, x, m, call{of: add, src: "a", dst: "b", index: 5})
	must(t, x, m, call{of: turn, src: "a", dst: "b", index: 6})
	return x, m
}

// The chapter's examples.
func TestExamples(t *testing.T) {
	x := intent.New(8)
	for i, c := range []call{
		{src: "*", dst: "db"}, {src: "web", dst: "db", allow: true}, {src: "web", dst: "*"}, {src: "*", dst: "*", allow: true},
	} {
		if err := x.Add(c.src, c.dst, c.allow, uint64(i+1)); err != api.OK {
			t.Errorf("Add(%q, %q) = %d", c.src, c.dst, err)
		}
	}
	for _, c := range []call{
		{src: "web", dst: "db", allow: true}, {src: "api", dst: "db"}, {src: "web", dst: "mail"}, {src: "api", dst: "mail", allow: true},
	} {
		for _, def := range []bool{false, true} {
			if allow, is := x.Decide(c.src, c.dst, def); allow != c.allow || !is {
				t.Errorf("Decide(%q, %q, %t) = %t, %t", c.src, c.dst, def, allow, is)
			}
		}
	}
	want := []api.Intention{
		{Src: "web", Dst: "db", Allow: true, Make: 2, Index: 2}, {Src: "*", Dst: "db", Make: 1, Index: 1},
		{Src: "web", Dst: "*", Make: 3, Index: 3}, {Src: "*", Dst: "*", Allow: true, Make: 4, Index: 4},
	}
	if l := x.List(); !slices.Equal(l, want) {
		t.Errorf("List = %v, want %v", l, want)
	}
}

// P17.1: there are none at first, and there is room for as many as were told, but for one at least and 64 at most.
func TestP171New(t *testing.T) {
	for _, most := range ints() {
		x, m := both(t, most)
		agree(t, x, m)
		for i := range mostRows + 6 {
			want := api.OK
			if i >= m.most {
				want = errFull
			}
			if err := x.Add("s"+strconv.Itoa(i), "d", true, uint64(i+1)); err != want {
				t.Fatalf("intention %d into a New(%d): %d, want %d", i, most, err, want)
			}
		}
		if len(x.List()) != m.most || x.Last() != uint64(m.most) {
			t.Fatalf("New(%d) has %d intentions, and the last index %d", most, len(x.List()), x.Last())
		}
	}
}

// P17.1: each two patterns may be, and no two intentions meet, however their sides run into one another.
func TestP171Pairs(t *testing.T) {
	x, m := both(t, mostRows)
	for _, c := range pairs() {
		must(t, x, m, c)
	}
	for _, c := range pairs() {
		refused(t, x, m, c, errTwice)
		must(t, x, m, call{of: turn, src: c.src, dst: c.dst, allow: !c.allow, old: c.index, index: c.index + 100})
	}
	for i, c := range pairs() {
		must(t, x, m, call{of: drop, src: c.src, dst: c.dst, old: c.index + 100, index: uint64(200 + i)})
	}
	for _, src := range patterns() {
		for _, dst := range patterns() {
			x, m = both(t, 1)
			must(t, x, m, call{of: add, src: src, dst: dst, allow: true, index: 2})
			must(t, x, m, call{of: turn, src: src, dst: dst, old: 2, index: 3})
			if l := x.List(); len(l) != 1 || l[0] != (api.Intention{Src: src, Dst: dst, Make: 2, Index: 3}) {
				t.Errorf("List = %v", l)
			}
			must(t, x, m, call{of: drop, src: src, dst: dst, old: 3, index: 4})
		}
	}
}

// P17.1: a text that is no pattern has ErrName first, on either side, whatever else is wrong.
func TestP171Names(t *testing.T) {
	x, m := filled(t, 5)
	room, n := sample(t)
	for _, of := range all() {
		for _, text := range others() {
			for _, side := range append(eight()[:3], text, "A") {
				for _, old := range []uint64{0, 4, 99} {
					for _, c := range []call{{of, text, side, true, old, 90}, {of, side, text, false, old, 90}} {
						if err := c.do(x); err != errName {
							t.Errorf("%+v = %d, want ErrName", c, err)
						}
						if err := c.do(room); err != errName {
							t.Errorf("%+v = %d, want ErrName", c, err)
						}
					}
				}
			}
		}
	}
	agree(t, x, m)
	agree(t, room, n)
}

// P17.1: Add makes an intention at its index; there is one of a source and a destination at most, whatever it says.
func TestP171Add(t *testing.T) {
	for _, allow := range []bool{false, true} {
		for _, index := range numbers() {
			x, m := both(t, 3)
			must(t, x, m, call{of: add, src: "a", dst: "b", allow: allow, index: index})
			for _, again := range []bool{false, true} {
				refused(t, x, m, call{of: add, src: "a", dst: "b", allow: again, index: index}, errTwice)
				refused(t, x, m, call{of: add, src: "a", dst: "b", allow: again, index: greatest}, errTwice)
			}
			must(t, x, m, call{of: add, src: "b", dst: "a", allow: !allow, index: 5})
			must(t, x, m, call{of: drop, src: "a", dst: "b", index: 6})
			must(t, x, m, call{of: add, src: "a", dst: "b", allow: !allow, index: 7})
			if l := x.For("b"); len(l) != 1 || l[0] != (api.Intention{Src: "a", Dst: "b", Allow: !allow, Make: 7, Index: 7}) {
				t.Errorf("an intention that came again is %v", l)
			}
		}
	}
}

// P17.1: where it is full no other one comes, ErrTwice is ahead of ErrFull, and what is there can be turned, and can go.
func TestP171Full(t *testing.T) {
	for most := 1; most <= mostRows; most++ {
		x, m := filled(t, most)
		there := pairs()[0]
		refused(t, x, m, call{of: add, src: "x", dst: "x", index: 190}, errFull)
		refused(t, x, m, call{of: add, src: there.src, dst: there.dst, index: 190}, errTwice)
		refused(t, x, m, call{of: turn, src: "x", dst: "x", index: 190}, errNone)
		refused(t, x, m, call{of: drop, src: "x", dst: "x", old: 7, index: 190}, errNone)
		must(t, x, m, call{of: turn, src: there.src, dst: there.dst, index: 191})
		must(t, x, m, call{of: drop, src: there.src, dst: there.dst, index: 192})
		must(t, x, m, call{of: add, src: "x", dst: "x", index: 193})
		refused(t, x, m, call{of: add, src: there.src, dst: there.dst, index: 194}, errFull)
	}
}

// P17.1: Turn and Drop with each old index, of an intention of each index, and of none; 0 is that any index will do.
func TestP171Old(t *testing.T) {
	for _, of := range []string{turn, drop} {
		for _, old := range numbers() {
			for _, index := range numbers() {
				x, m := both(t, 3)
				must(t, x, m, call{of: add, src: "a", dst: "*", allow: true, index: index})
				for _, c := range []call{{src: "*", dst: "a"}, {src: "a", dst: "a"}, {src: "*", dst: "*"}, {src: "b", dst: "*"}} {
					refused(t, x, m, call{of, c.src, c.dst, false, old, 40}, errNone)
				}
				want := api.OK
				if old != 0 && old != index {
					want = errCas
				}
				refused(t, x, m, call{of, "a", "*", false, old, 40}, want)
				if l := x.List(); want == api.OK && of == turn && (len(l) != 1 || l[0] != (api.Intention{Src: "a", Dst: "*", Make: index, Index: 40})) {
					t.Errorf("Turn made %v", l)
				} else if want == api.OK && of == drop && len(l) != 0 {
					t.Errorf("Drop left %v", l)
				}
			}
		}
	}
}

// P17.1: Turn and Drop look at the Index, not at the Make, also of an intention that went and came again.
func TestP171Make(t *testing.T) {
	x, m := both(t, 3)
	must(t, x, m, call{of: add, src: "a", dst: "b", index: 2})
	must(t, x, m, call{of: turn, src: "a", dst: "b", allow: true, index: 3})
	refused(t, x, m, call{of: turn, src: "a", dst: "b", old: 2, index: 4}, errCas)
	refused(t, x, m, call{of: drop, src: "a", dst: "b", old: 2, index: 4}, errCas)
	must(t, x, m, call{of: drop, src: "a", dst: "b", old: 3, index: 4})
	refused(t, x, m, call{of: turn, src: "a", dst: "b", old: 3, index: 5}, errNone)
	must(t, x, m, call{of: add, src: "a", dst: "b", index: 5})
	refused(t, x, m, call{of: drop, src: "a", dst: "b", old: 3, index: 6}, errCas)
	must(t, x, m, call{of: turn, src: "a", dst: "b", old: 5, index: 6})
	if l := x.List(); len(l) != 1 || l[0] != (api.Intention{Src: "a", Dst: "b", Make: 5, Index: 6}) {
		t.Errorf("an intention that came again is %v", l)
	}
}

// P17.1: Turn sets what it is told, also what is so already: that is a modification too.
func TestP171Turn(t *testing.T) {
	for _, was := range []bool{false, true} {
		for _, is := range []bool{false, true} {
			x, m := both(t, 2)
			must(t, x, m, call{of: add, src: "a", dst: "b", allow: was, index: 2})
			must(t, x, m, call{of: add, src: "b", dst: "b", allow: was, index: 3})
			must(t, x, m, call{of: turn, src: "a", dst: "b", allow: is, index: 4})
			want := []api.Intention{{Src: "a", Dst: "b", Allow: is, Make: 2, Index: 4}, {Src: "b", Dst: "b", Allow: was, Make: 3, Index: 3}}
			if l := x.List(); !slices.Equal(l, want) || x.Last() != 4 {
				t.Errorf("List = %v, want %v, Last = %d", l, want, x.Last())
			}
		}
	}
}

// P17.1: Add, Turn and Drop with each two indexes, also falling ones: Make stays.
func TestP171Indexes(t *testing.T) {
	for _, first := range numbers() {
		for _, then := range numbers() {
			x, m := both(t, 3)
			must(t, x, m, call{of: add, src: "a", dst: "b", index: first})
			must(t, x, m, call{of: turn, src: "a", dst: "b", allow: true, index: then})
			if l := x.List(); len(l) != 1 || l[0].Make != first || l[0].Index != then || x.Last() != max(first, then) {
				t.Errorf("behind indexes %d and %d: %v, Last %d", first, then, l, x.Last())
			}
			x, m = both(t, 3)
			must(t, x, m, call{of: add, src: "a", dst: "b", index: first})
			must(t, x, m, call{of: drop, src: "a", dst: "b", index: then})
			if x.Last() != max(first, then) {
				t.Errorf("behind indexes %d and %d: Last %d", first, then, x.Last())
			}
		}
	}
}

// P17.1: each function with each kind of source, destination and index, with room and without; what is refused leaves no trace.
func TestErrors(t *testing.T) {
	for _, of := range all() {
		for _, src := range []string{"a", "b", "*", "", "A"} {
			for _, dst := range []string{"a", "b", "*", "", "A"} {
				for _, old := range []uint64{0, 2, 3, 4, 5, 6, 7, greatest} {
					c := call{of, src, dst, true, old, 30}
					x, m := sample(t)
					doBoth(t, x, m, c)
					x, m = sample(t)
					must(t, x, m, call{of: add, src: "x", dst: "x", index: 7})
					doBoth(t, x, m, c)
				}
			}
		}
	}
}

// P17.2: List has all intentions, the higher ranks first, then the lower destinations, then the lower sources, in byte order.
func TestP172List(t *testing.T) {
	x, m := filled(t, mostRows)
	l := x.List()
	if len(l) != mostRows || !slices.Equal(l, m.list()) {
		t.Fatalf("List = %v, want %v", l, m.list())
	}
	var got []string
	for _, i := range l {
		got = append(got, i.Src+" "+i.Dst)
	}
	var want []string
	rising := []string{"a", "a--b", "a-b", "a-b-a", "aa", "b", "b-a"}
	for _, dst := range rising {
		for _, src := range rising {
			want = append(want, src+" "+dst)
		}
	}
	for _, dst := range rising {
		want = append(want, "* "+dst)
	}
	for _, src := range rising {
		want = append(want, src+" *")
	}
	if want = append(want, "* *"); !slices.Equal(got, want) {
		t.Errorf("List = %q, want %q", got, want)
	}
}

// P17.2: each two intentions stand in their order, whichever came first.
func TestP172Order(t *testing.T) {
	for _, one := range pairs() {
		for _, two := range pairs() {
			if one.src == two.src && one.dst == two.dst {
				continue
			}
			x, m := intent.New(2), &told{most: 2}
			for _, c := range []call{one, two} {
				if err := c.do(x); err != api.OK || m.do(c) != api.OK {
					t.Fatalf("%+v = %d", c, err)
				}
			}
			if got, want := x.List(), m.list(); !slices.Equal(got, want) {
				t.Fatalf("List = %v, want %v", got, want)
			}
		}
	}
}

// P17.2: For has those of List that take a destination; the star is no destination, nor is any other text that is no name.
func TestP172For(t *testing.T) {
	x, m := filled(t, mostRows)
	for _, dst := range append(patterns(), others()...) {
		if got, want := x.For(dst), m.forDst(dst); !slices.Equal(got, want) {
			t.Errorf("For(%q) = %v, want %v", dst, got, want)
		}
	}
	for _, y := range []struct {
		dst  string
		want int
	}{{"a", 16}, {"b-a", 16}, {"web", 8}, {"*", 0}, {"", 0}, {"A", 0}, {"a-", 0}, {strings.Repeat("x", mostName), 8}, {strings.Repeat("x", mostName+1), 0}} {
		if l := x.For(y.dst); len(l) != y.want {
			t.Errorf("For(%q) has %d, want %d", y.dst, len(l), y.want)
		}
	}
	empty, _ := both(t, 3)
	if l := empty.For("a"); len(l) != 0 {
		t.Errorf("For of none = %v", l)
	}
}

// P17.3: the rank, of any two texts: just the star itself is not exact.
func TestP173Rank(t *testing.T) {
	texts := append(patterns(), others()...)
	for _, src := range texts {
		for _, dst := range texts {
			for _, i := range []api.Intention{{Src: src, Dst: dst}, {Src: src, Dst: dst, Allow: true, Make: greatest, Index: 7}} {
				if got, want := intent.Rank(i), rank(i); got != want {
					t.Errorf("Rank(%v) = %d, want %d", i, got, want)
				}
			}
		}
	}
	for want, i := range []api.Intention{{Src: "*", Dst: "*"}, {Src: "a", Dst: "*"}, {Src: "*", Dst: "a"}, {Src: "a", Dst: "b"}} {
		if got := intent.Rank(i); got != want {
			t.Errorf("Rank(%v) = %d, want %d", i, got, want)
		}
	}
	if got := intent.Rank(api.Intention{}); got != 3 {
		t.Errorf("Rank of the zero intention = %d, want 3", got)
	}
}

// chosen fails where Choose answers something else than the chapter's words.
func chosen(t *testing.T, l []api.Intention, src, dst string) {
	t.Helper()
	for _, def := range []bool{false, true} {
		allow, at := intent.Choose(l, src, dst, def)
		if want, place := choose(l, src, dst, def); allow != want || at != place {
			t.Fatalf("Choose(%v, %q, %q, %t) = %t, %d, want %t, %d", l, src, dst, def, allow, at, want, place)
		}
	}
}

// P17.3: of no intentions, and of such as do not apply, Choose has the default and no place.
func TestP173None(t *testing.T) {
	full, _ := filled(t, mostRows)
	stars := []api.Intention{{Src: "*", Dst: "*"}, {Src: "*", Dst: "*", Allow: true}}
	for _, def := range []bool{false, true} {
		none := func(l []api.Intention, src, dst string) {
			t.Helper()
			if allow, at := intent.Choose(l, src, dst, def); allow != def || at != -1 {
				t.Errorf("Choose(%v, %q, %q, %t) = %t, %d", l, src, dst, def, allow, at)
			}
		}
		none(nil, "a", "b")
		none([]api.Intention{}, "a", "b")
		none([]api.Intention{{Src: "a", Dst: "c", Allow: !def}, {Src: "b", Dst: "b", Allow: !def}, {Src: "b", Dst: "*", Allow: !def}, {Src: "*", Dst: "a", Allow: !def}}, "a", "b")
		// The star, and whatever else is no name, is neither a source nor a destination: no intention applies, not even one of that very text.
		for _, text := range append(others(), "*") {
			for _, l := range [][]api.Intention{stars, full.List(), {{Src: text, Dst: text, Allow: !def}}, {{Src: text, Dst: "a", Allow: !def}, {Src: "a", Dst: text, Allow: !def}}} {
				none(l, text, "a")
				none(l, "a", text)
				none(l, text, text)
			}
			if allow, is := full.Decide(text, "a", def); allow != def || is {
				t.Errorf("Decide(%q, a, %t) = %t, %t", text, def, allow, is)
			}
			if allow, is := full.Decide("a", text, def); allow != def || is {
				t.Errorf("Decide(a, %q, %t) = %t, %t", text, def, allow, is)
			}
		}
	}
}

// P17.3: the highest rank counts, wherever it stands; of one rank the first that applies.
func TestP173Ranks(t *testing.T) {
	ranked := []api.Intention{{Src: "*", Dst: "*"}, {Src: "a", Dst: "*"}, {Src: "*", Dst: "b"}, {Src: "a", Dst: "b"}}
	for one := range ranked {
		for two := range ranked {
			for which := range 4 {
				l := []api.Intention{ranked[one], ranked[two]}
				l[0].Allow, l[1].Allow = which&1 != 0, which&2 != 0
				want := 0
				if two > one {
					want = 1
				}
				for _, def := range []bool{false, true} {
					if allow, at := intent.Choose(l, "a", "b", def); at != want || allow != l[want].Allow {
						t.Errorf("Choose(%v) = %t, %d, want place %d", l, allow, at, want)
					}
				}
			}
		}
	}
}

// P17.3: through any lists, also of texts that are no patterns and of intentions that stand twice, Choose does as the chapter's words have it.
func TestP173Choose(t *testing.T) {
	c := chance(1)
	sides := append(eight()[:4], "web", "", "A")
	for range 3000 {
		var l []api.Intention
		for range c.below(12) {
			l = append(l, c.intention())
		}
		for range 8 {
			chosen(t, l, c.one(sides), c.one(sides))
		}
	}
	for _, n := range []int{mostRows, mostRows + 1, 300, 5000} {
		var l []api.Intention
		for range n {
			l = append(l, api.Intention{Src: "*", Dst: "b"})
		}
		l[n-1] = api.Intention{Src: "a", Dst: "b", Allow: true}
		chosen(t, l, "a", "b")
		chosen(t, l, "b", "b")
		chosen(t, l, "b", "a")
	}
}

// P17.3: Decide is what Choose says of List, for each two sides and each default.
func TestP173Decide(t *testing.T) {
	texts := append(patterns(), others()[:12]...)
	for _, most := range []int{1, 2, 9, mostRows} {
		x, _ := filled(t, most)
		for _, src := range texts {
			for _, dst := range texts {
				for _, def := range []bool{false, true} {
					allow, is := x.Decide(src, dst, def)
					if want, at := choose(x.List(), src, dst, def); allow != want || is != (at >= 0) {
						t.Fatalf("Decide(%q, %q, %t) = %t, %t, want %t, %t", src, dst, def, allow, is, want, at >= 0)
					}
				}
			}
		}
	}
}

// P17.4: each modification gives its index, a refused one does not, and one that changes nothing else does.
func TestP174Last(t *testing.T) {
	x, m := both(t, 2)
	if x.Last() != 0 {
		t.Errorf("Last of none = %d", x.Last())
	}
	for i, c := range []call{
		{of: add, src: "a", dst: "b"}, {of: turn, src: "a", dst: "b"}, {of: turn, src: "a", dst: "b", allow: true}, {of: add, src: "*", dst: "b"},
		{of: drop, src: "a", dst: "b"}, {of: add, src: "a", dst: "b"}, {of: drop, src: "*", dst: "b"}, {of: drop, src: "a", dst: "b"}, {of: add, src: "a", dst: "b"},
	} {
		c.index = uint64(i + 1)
		must(t, x, m, c)
		if x.Last() != c.index {
			t.Fatalf("Last behind %+v = %d", c, x.Last())
		}
	}
	must(t, x, m, call{of: add, src: "b", dst: "b", index: 10})
	for _, c := range []call{
		{of: add, src: "A", dst: "b"}, {of: add, src: "a", dst: "b"}, {of: add, src: "c", dst: "b"}, {of: turn, src: "c", dst: "b"},
		{of: turn, src: "a", dst: "b", old: 3}, {of: drop, src: "a", dst: "b", old: 3}, {of: drop, src: "c", dst: "b"}, {of: drop, src: "c", dst: ""},
	} {
		c.index = 50
		if err := doBoth(t, x, m, c); err == api.OK || x.Last() != 10 {
			t.Fatalf("%+v = %d, Last %d", c, err, x.Last())
		}
	}
	must(t, x, m, call{of: turn, src: "a", dst: "b", index: 7})
	must(t, x, m, call{of: drop, src: "a", dst: "b", index: 7})
	if x.Last() != 10 {
		t.Errorf("Last behind lower indexes = %d, want 10", x.Last())
	}
}

// P17.4: a copy has all that there is, the capacity too, and each goes on by itself.
func TestP174Copy(t *testing.T) {
	c := chance(2)
	for range 40 {
		x, m := both(t, 1+c.below(9))
		for range c.below(40) {
			doBoth(t, x, m, c.any(c.number(40)))
		}
		other, n := x.Copy(), m.copy()
		agree(t, other, n)
		for range 30 {
			doBoth(t, x, m, c.any(c.number(40)))
			agree(t, other, n)
			doBoth(t, other, n, c.any(c.number(40)))
			agree(t, x, m)
		}
	}
	empty, m := both(t, 1)
	must(t, empty.Copy(), m.copy(), call{of: add, src: "a", dst: "b", index: 1})
	agree(t, empty, m)
}

// intentions is intentions that may be loaded with the last index 20.
func intentions() []api.Intention {
	return []api.Intention{
		{Src: "b", Dst: "a", Allow: true, Make: 0, Index: 0},
		{Src: strings.Repeat("a", mostName), Dst: "a-b", Make: 7, Index: 7},
		{Src: "b", Dst: "a-b", Allow: true, Make: 0, Index: 20},
		{Src: "*", Dst: "a", Make: 19, Index: 20},
		{Src: "a", Dst: "*", Allow: true, Make: 20, Index: 20},
		{Src: "*", Dst: "*", Make: 1, Index: 2},
	}
}

// loaded fails where intentions that may be loaded are not, with all that they have.
func loaded(t *testing.T, most int, l []api.Intention, last uint64) (*intent.Intents, *told) {
	t.Helper()
	given := slices.Clone(l)
	x, err := intent.Load(most, l, last)
	if err != api.OK || x == nil {
		t.Fatalf("Load(%d, %v, %d) = %v, %d", most, l, last, x, err)
	}
	if !slices.Equal(l, given) {
		t.Fatalf("Load turned its argument to %v", l)
	}
	m := &told{clamped(most), last, given}
	agree(t, x, m)
	return x, m
}

// unloaded fails where intentions that may not be loaded are.
func unloaded(t *testing.T, most int, l []api.Intention, last uint64) {
	t.Helper()
	given := slices.Clone(l)
	if x, err := intent.Load(most, l, last); x != nil || err != errArg {
		t.Errorf("Load(%d, %v, %d) = %v, %d", most, l, last, x, err)
	}
	if !slices.Equal(l, given) {
		t.Errorf("Load turned its argument to %v", l)
	}
}

// P17.4: Load has exactly the intentions, with all their fields, and the last index, and goes on from there.
func TestP174Load(t *testing.T) {
	for n := range len(intentions()) + 1 {
		for _, last := range []uint64{20, 21, greatest} {
			x, m := loaded(t, 7, intentions()[:n], last)
			must(t, x, m, call{of: add, src: "x", dst: "x", index: 30})
			loaded(t, 7, intentions()[n:], last)
		}
	}
	for _, last := range numbers() {
		loaded(t, 3, nil, last)
		loaded(t, 3, []api.Intention{}, last)
		loaded(t, 3, []api.Intention{{Src: "a", Dst: "b", Make: last, Index: last}}, last)
		loaded(t, 3, []api.Intention{{Src: "a", Dst: "b", Make: 0, Index: last}, {Src: "*", Dst: "*"}}, last)
	}
	x, m := loaded(t, 6, intentions(), 25)
	refused(t, x, m, call{of: add, src: "x", dst: "x", index: 30}, errFull)
	refused(t, x, m, call{of: add, src: "b", dst: "a", index: 30}, errTwice)
	refused(t, x, m, call{of: turn, src: "*", dst: "a", old: 19, index: 30}, errCas)
	must(t, x, m, call{of: turn, src: "*", dst: "a", old: 20, allow: true, index: 30})
	must(t, x, m, call{of: drop, src: "*", dst: "*", old: 2, index: 31})
	must(t, x, m, call{of: add, src: "x", dst: "x", index: 32})
	if l := x.For("a"); len(l) != 3 || l[1] != (api.Intention{Src: "*", Dst: "a", Allow: true, Make: 19, Index: 30}) {
		t.Errorf("For = %v", l)
	}
}

// P17.4: an intention at each place that may not be.
func TestP174Wrong(t *testing.T) {
	for at := range intentions() {
		with := func(turn func(i *api.Intention)) []api.Intention {
			l := intentions()
			turn(&l[at])
			return l
		}
		for _, text := range others() {
			unloaded(t, 9, with(func(i *api.Intention) { i.Src = text }), 20)
			unloaded(t, 9, with(func(i *api.Intention) { i.Dst = text }), 20)
			unloaded(t, 9, []api.Intention{{Src: text, Dst: "a"}}, 20)
			unloaded(t, 9, []api.Intention{{Src: "a", Dst: text}}, 20)
			unloaded(t, 9, []api.Intention{{Src: text, Dst: text}}, 20)
		}
		for _, index := range numbers() {
			if index > 0 {
				unloaded(t, 9, with(func(i *api.Intention) { i.Make, i.Index = index, index-1 }), greatest)
			}
			if index > 20 {
				unloaded(t, 9, with(func(i *api.Intention) { i.Make, i.Index = 0, index }), index-1)
				loaded(t, 9, with(func(i *api.Intention) { i.Make, i.Index = 0, index }), index)
			}
		}
		unloaded(t, 9, with(func(i *api.Intention) { i.Make, i.Index = 21, 21 }), 20)
		unloaded(t, 9, with(func(i *api.Intention) { i.Make = 21 }), 20)
	}
}

// P17.4: each two intentions may be loaded just in the order of List, and no intention twice, whatever it says.
func TestP174Order(t *testing.T) {
	for _, one := range pairs() {
		for _, two := range pairs() {
			l := []api.Intention{{Src: one.src, Dst: one.dst, Index: 1}, {Src: two.src, Dst: two.dst, Allow: true, Index: 2}}
			m := told{l: slices.Clone(l)}
			same := one.src == two.src && one.dst == two.dst
			x, err := intent.Load(9, l, 5)
			if may := !same && slices.Equal(m.list(), l); may != (err == api.OK) || may != (x != nil) || !may && err != errArg {
				t.Fatalf("Load(%v) = %v, %d", l, x, err)
			}
		}
	}
	for i := range intentions() {
		twice := slices.Insert(intentions(), i, intentions()[i])
		unloaded(t, 9, twice, 20)
		twice[i].Allow = !twice[i].Allow
		unloaded(t, 9, twice, 20)
		unloaded(t, 9, append(intentions(), intentions()[i]), 20)
		for k := range i {
			l := intentions()
			l[i], l[k] = l[k], l[i]
			unloaded(t, 9, l, 20)
		}
	}
}

// P17.4: as many intentions as the capacity allows, for each capacity and those beyond its bounds.
func TestP174Most(t *testing.T) {
	var l []api.Intention
	for i := range mostRows + 40 {
		l = append(l, api.Intention{Src: "s" + strconv.Itoa(100+i), Dst: "d", Make: uint64(i), Index: uint64(i)})
	}
	for _, most := range ints() {
		room := clamped(most)
		x, m := loaded(t, most, l[:room], 200)
		refused(t, x, m, call{of: add, src: "x", dst: "x", index: 201}, errFull)
		must(t, x, m, call{of: turn, src: "s100", dst: "d", index: 201})
		if room > 1 {
			x, m = loaded(t, most, l[:room-1], 200)
			must(t, x, m, call{of: add, src: "x", dst: "x", index: 201})
			refused(t, x, m, call{of: add, src: "y", dst: "y", index: 201}, errFull)
		}
		unloaded(t, most, l[:room+1], 200)
		unloaded(t, most, l, 200)
	}
}

// P17.4: where indexes ascend, intentions that are loaded from their List and Last are equal, and do the same from then on.
func TestP174Loaded(t *testing.T) {
	c := chance(3)
	for range 12 {
		most := c.below(mostRows+3) - 1
		x, m := both(t, most)
		index := uint64(0)
		for range 60 {
			index += uint64(c.below(3))
			doBoth(t, x, m, c.any(index))
		}
		other, err := intent.Load(most, x.List(), x.Last())
		if err != api.OK {
			t.Fatalf("Load(%v, %d): error %d", x.List(), x.Last(), err)
		}
		n := m.copy()
		agree(t, other, n)
		for range 40 {
			index += uint64(c.below(3))
			y := c.any(index)
			doBoth(t, x, m, y)
			doBoth(t, other, n, y)
		}
	}
}

// P17.4: intentions that are not there, or that no call made, have ErrNil, whatever else is wrong, decide by the default, and do nothing else.
func TestP174NoIntents(t *testing.T) {
	for _, x := range []*intent.Intents{nil, {}, new(intent.Intents)} {
		for range 2 {
			for _, of := range all() {
				for _, src := range []string{"a", "*", "", "A"} {
					for _, dst := range []string{"a", "*", "", "A"} {
						for _, number := range numbers() {
							if err := (call{of, src, dst, true, number, number}).do(x); err != errNil {
								t.Errorf("%s(%q, %q) = %d", of, src, dst, err)
							}
						}
					}
				}
			}
			for _, text := range append(patterns(), others()...) {
				if l := x.For(text); len(l) != 0 {
					t.Errorf("For(%q) = %v", text, l)
				}
				for _, def := range []bool{false, true} {
					if allow, is := x.Decide(text, "a", def); allow != def || is {
						t.Errorf("Decide(%q, a, %t) = %t, %t", text, def, allow, is)
					}
					if allow, is := x.Decide("a", text, def); allow != def || is {
						t.Errorf("Decide(a, %q, %t) = %t, %t", text, def, allow, is)
					}
				}
			}
			if x.Last() != 0 || len(x.List()) != 0 || x.Copy() != nil {
				t.Errorf("Last %d, List %v, Copy %v", x.Last(), x.List(), x.Copy())
			}
		}
	}
}

// unlike is intentions of which no two have the same source and destination.
func (c *chance) unlike() []api.Intention {
	var l []api.Intention
	for range c.below(14) {
		i := c.intention()
		if !slices.ContainsFunc(l, func(k api.Intention) bool { return k.Src == i.Src && k.Dst == i.Dst }) {
			l = append(l, i)
		}
	}
	return l
}

// P17.5: where no two intentions have the same source and destination, a list's order does not touch what Choose decides.
func TestP175Order(t *testing.T) {
	c := chance(4)
	sides := append(eight()[:4], "web", "", "A")
	for range 2000 {
		l := c.unlike()
		other := slices.Clone(l)
		for i := range other {
			k := c.below(i + 1)
			other[i], other[k] = other[k], other[i]
		}
		src, dst, def := c.one(sides), c.one(sides), c.below(2) == 0
		one, at := intent.Choose(l, src, dst, def)
		two, place := intent.Choose(other, src, dst, def)
		if one != two || (at < 0) != (place < 0) || at >= 0 && l[at] != other[place] {
			t.Fatalf("Choose(%v, %q, %q) = %t, %d, but of %v %t, %d", l, src, dst, one, at, other, two, place)
		}
	}
}

// P17.5: an intention touches no source and destination to which it does not apply: made, turned or gone.
func TestP175Others(t *testing.T) {
	sides := append(eight()[:5], "web", "", "A")
	decided := func(x *intent.Intents) map[[2]string][4]bool {
		all := map[[2]string][4]bool{}
		for _, src := range sides {
			for _, dst := range sides {
				no, is := x.Decide(src, dst, false)
				yes, also := x.Decide(src, dst, true)
				all[[2]string{src, dst}] = [4]bool{no, is, yes, also}
			}
		}
		return all
	}
	c := chance(5)
	for range 40 {
		x, m := both(t, 7)
		before := decided(x)
		for range 40 {
			y := c.any(c.number(40))
			doBoth(t, x, m, y)
			now := decided(x)
			for pair, was := range before {
				if now[pair] != was && !(takes(y.src, pair[0]) && takes(y.dst, pair[1])) {
					t.Fatalf("%+v turned what is decided of %q from %t to %t", y, pair, was, now[pair])
				}
			}
			before = now
		}
	}
}

// P17.5: Choose decides the same of a list and of those of it that take the destination.
func TestP175For(t *testing.T) {
	c := chance(6)
	sides := append(eight()[:4], "web", "", "A")
	for range 2000 {
		var l []api.Intention
		for range c.below(12) {
			l = append(l, c.intention())
		}
		src, dst, def := c.one(sides), c.one(sides), c.below(2) == 0
		some := slices.DeleteFunc(slices.Clone(l), func(i api.Intention) bool { return !takes(i.Dst, dst) })
		one, at := intent.Choose(l, src, dst, def)
		two, place := intent.Choose(some, src, dst, def)
		if one != two || (at < 0) != (place < 0) || at >= 0 && l[at] != some[place] {
			t.Fatalf("Choose(%v, %q, %q) = %t, %d, but of %v %t, %d", l, src, dst, one, at, some, two, place)
		}
	}
	x, _ := filled(t, mostRows)
	for _, src := range patterns() {
		for _, dst := range patterns() {
			for _, def := range []bool{false, true} {
				allow, is := x.Decide(src, dst, def)
				if got, at := intent.Choose(x.For(dst), src, dst, def); got != allow || is != (at >= 0) {
					t.Fatalf("Choose of For(%q) = %t, %d, but Decide(%q) = %t, %t", dst, got, at, src, allow, is)
				}
			}
		}
	}
}

// P17.1 to P17.4: through any calls the intentions do as the chapter's words have it.
func TestAny(t *testing.T) {
	c := chance(7)
	for range 100 {
		x, m := both(t, c.below(12)-1)
		for range 60 {
			doBoth(t, x, m, c.any(c.number(20)))
		}
	}
}

// R3: what List and For answer shares no memory with the intentions, nor with another answer.
func TestResults(t *testing.T) {
	x, m := sample(t)
	other, n := x.Copy(), m.copy()
	for range 3 {
		list := x.List()
		for _, l := range [][]api.Intention{x.List(), x.For("b"), x.For("x"), other.List()} {
			for l := l[:cap(l)]; len(l) > 0; l = l[1:] {
				l[0] = api.Intention{Src: "q", Dst: "q", Allow: true, Index: 99}
			}
		}
		if !slices.Equal(list, m.list()) {
			t.Fatalf("an answer was changed by way of another: %v", list)
		}
		agree(t, x, m)
		agree(t, other, n)
	}
}

// R3: Load keeps nothing of its argument, and neither it nor Choose writes to it, nor behind its end.
func TestArgument(t *testing.T) {
	l := intentions()
	x, m := loaded(t, 9, l[:3], 20)
	for _, src := range patterns() {
		intent.Choose(l[:3], src, "a", true)
	}
	unloaded(t, 2, l[:3], 20)
	if !slices.Equal(l, intentions()) {
		t.Fatalf("the argument was turned to %v", l)
	}
	clear(l)
	agree(t, x, m)
	must(t, x, m, call{of: turn, src: "b", dst: "a", index: 21})
	must(t, x, m, call{of: add, src: "z", dst: "z", index: 22})
	if !slices.Equal(l, make([]api.Intention, len(l))) {
		t.Fatalf("intentions that were loaded wrote into %v", l)
	}
}

// R4: two of them share nothing, be they made, or loaded from the same intentions.
func TestTwo(t *testing.T) {
	c := chance(8)
	one, m := both(t, 5)
	two, n := loaded(t, 8, intentions(), 20)
	three, o := loaded(t, 8, intentions(), 20)
	for range 100 {
		doBoth(t, one, m, c.any(c.number(40)))
		agree(t, two, n)
		doBoth(t, two, n, c.any(c.number(40)))
		agree(t, three, o)
		doBoth(t, three, o, c.any(c.number(40)))
		agree(t, one, m)
	}
}

// R3: an answer stays as it is, whatever is done later.
func TestKept(t *testing.T) {
	x, m := sample(t)
	list, some, want, wantSome := x.List(), x.For("b"), m.list(), m.forDst("b")
	c := chance(10)
	for range 100 {
		doBoth(t, x, m, c.any(c.number(40)))
		if !slices.Equal(list, want) || !slices.Equal(some, wantSome) {
			t.Fatalf("an answer was changed: %v, %v", list, some)
		}
	}
}
