package kv_test

import (
	"math"
	"slices"
	"sort"
	"strconv"
	"strings"
	"testing"

	"sodality/api"
	"sodality/kv"
)

// The numbers of the chapter and of the words it leans on: how many entries there may be, the bytes of keys and values, the errors, and the greatest index.
const (
	mostRows  = 64
	mostKey   = 32
	mostValue = 64
	errNil    = 1
	errArg    = 2
	errLong   = 3
	errNone   = 4
	errFull   = 5
	errName   = 10
	errCas    = 21
	errHeld   = 22
	greatest  = math.MaxUint64
)

// ints is numbers of any kind: those around the limit of rows, and where integers of any width end.
func ints() []int {
	l := []int{math.MinInt, math.MinInt + 1, math.MinInt32, math.MaxInt32, math.MaxInt - 1, math.MaxInt, -256, 255, 256, 1 << 32, 1<<32 + 3, -1 << 32, 1 << 62}
	for n := -9; n <= 70; n++ {
		l = append(l, n)
	}
	return l
}

// numbers is small indexes and sessions, and those around where narrower numbers end or turn their sign.
func numbers() []uint64 {
	return []uint64{0, 1, 2, 3, 255, 256, 1<<31 - 1, 1 << 31, 1<<32 - 1, 1 << 32, 1<<53 + 1, 1<<63 - 1, 1 << 63, greatest - 1, greatest}
}

// keys is texts that are keys by chapter 1.
func keys() []string {
	return []string{
		"a", "b", "aa", "ab", "a/b", "a/b/c", "a/bc", "a-b", "a.b", "a_b", "a0", "0", "-", "_", ".", "..", "./-", "z/z/z", "a/b.c",
		strings.Repeat("a", mostKey-1), strings.Repeat("a", mostKey), strings.Repeat("a/", 15) + "b", strings.Repeat("a/", 15) + "bc",
	}
}

// others is texts that are no keys by chapter 1.
func others() []string {
	return []string{
		"", "/", "//", "a/", "/a", "a//b", "a/b/", "A", "aB", "a b", "*", " ", "a\x00", "\x00", "\xff", "a\xff", "\xc3\xa4", "a:b", "a,b", "a+b", "`", "{", "@", "[",
		strings.Repeat("a", mostKey+1), strings.Repeat("a/", 16) + "b", strings.Repeat("a/", 16), strings.Repeat("a", 256+mostKey), strings.Repeat("a/", 5000) + "b",
	}
}

// values is values that may be.
func values() []string {
	return []string{"", "x", "1", "\x00", "\xff\xfe", "a/b", strings.Repeat("v", mostValue-1), strings.Repeat("v", mostValue), strings.Repeat("\xff", mostValue)}
}

// longs is values that are too long.
func longs() []string {
	return []string{strings.Repeat("v", mostValue+1), strings.Repeat("v", 255), strings.Repeat("v", 256), strings.Repeat("v", 256+mostValue), strings.Repeat("\x00", 1<<16)}
}

// chance is numbers that follow from a seed.
type chance uint64

// below is the next number, from 0 to n-1.
func (c *chance) below(n int) int {
	*c = *c*6364136223846793005 + 1442695040888963407
	return int(uint64(*c)>>33) % n
}

// one is any of some texts.
func (c *chance) one(l []string) string {
	return l[c.below(len(l))]
}

// number is any number: mostly one of the few below, so that they often meet.
func (c *chance) number(few int) uint64 {
	if c.below(12) == 0 {
		return numbers()[c.below(len(numbers()))]
	}
	return uint64(c.below(few))
}

// The functions that modify.
const (
	set    = "Set"
	cas    = "Cas"
	del    = "Del"
	delCas = "DelCas"
	lock   = "Lock"
	unlock = "Unlock"
	free   = "Free"
)

// all is the functions that modify one entry.
func all() []string {
	return []string{set, cas, del, delCas, lock, unlock}
}

// call is a call that modifies: each function takes some of the fields.
type call struct {
	of           string
	key, value   string
	old, session uint64
	index        uint64
}

// do is the call at a store.
func (c call) do(k *kv.Kv) (api.Errno, []string) {
	switch c.of {
	case set:
		return k.Set(c.key, c.value, c.index), nil
	case cas:
		return k.Cas(c.key, c.value, c.old, c.index), nil
	case del:
		return k.Del(c.key, c.index), nil
	case delCas:
		return k.DelCas(c.key, c.old, c.index), nil
	case lock:
		return k.Lock(c.key, c.value, c.session, c.index), nil
	case unlock:
		return k.Unlock(c.key, c.value, c.session, c.index), nil
	}
	return api.OK, k.Free(c.session, c.index)
}

// any is any call.
func (c *chance) any(index uint64) call {
	x := call{
		of: c.one(append(all(), set, lock, lock, free)), key: c.one(keys()[:8]), value: c.one(values()),
		old: c.number(20), session: c.number(4), index: index,
	}
	switch c.below(20) {
	case 0:
		x.key = c.one(others())
	case 1:
		x.value = c.one(longs())
	case 2, 3, 4:
		x.key = c.one(keys())
	}
	return x
}

// told is a store by the words of the chapter: its capacity, its last index, and its entries in no order.
type told struct {
	most int
	last uint64
	l    []api.Entry
}

// place is where the entry of a key is, or -1.
func (m *told) place(key string) int {
	return slices.IndexFunc(m.l, func(e api.Entry) bool { return e.Key == key })
}

// isKey is what P1.2 says of a key.
func isKey(s string) bool {
	for _, part := range strings.Split(s, "/") {
		if part == "" {
			return false
		}
	}
	for i := range len(s) {
		if strings.IndexByte("abcdefghijklmnopqrstuvwxyz0123456789-_./", s[i]) < 0 {
			return false
		}
	}
	return len(s) <= mostKey
}

// first is what P16.1 says of the errors that come first: of the key, and of the value where there is one.
func (c call) first() api.Errno {
	if !isKey(c.key) {
		return errName
	}
	if (c.of == set || c.of == cas || c.of == lock || c.of == unlock) && len(c.value) > mostValue {
		return errLong
	}
	return api.OK
}

// own is what P16.2 and P16.3 say of the errors of each function.
func (m *told) own(c call) api.Errno {
	e, is := m.get(c.key)
	switch {
	case c.of == cas && c.old == 0 && is:
		return errCas
	case c.of == cas && c.old != 0 && (!is || e.Index != c.old):
		return errCas
	case c.of == del && !is:
		return errNone
	case c.of == delCas && !is:
		return errNone
	case c.of == delCas && e.Index != c.old:
		return errCas
	case c.of == lock && c.session == 0:
		return errArg
	case c.of == lock && e.Session != 0 && e.Session != c.session:
		return errHeld
	case c.of == unlock && !is:
		return errNone
	case c.of == unlock && (c.session == 0 || e.Session != c.session):
		return errHeld
	}
	return api.OK
}

// given is what chapter 15 says of the last index.
func (m *told) given(index uint64) {
	if index > m.last {
		m.last = index
	}
}

// do is what the chapter says of a call.
func (m *told) do(c call) (api.Errno, []string) {
	if c.of == free {
		return api.OK, m.free(c.session, c.index)
	}
	if err := c.first(); err != api.OK {
		return err, nil
	}
	if err := m.own(c); err != api.OK {
		return err, nil
	}
	i := m.place(c.key)
	if c.of == del || c.of == delCas {
		m.l = slices.Delete(m.l, i, i+1)
		m.given(c.index)
		return api.OK, nil
	}
	if i < 0 && len(m.l) == m.most {
		return errFull, nil
	}
	if i < 0 {
		m.l = append(m.l, api.Entry{Key: c.key, Make: c.index})
		i = len(m.l) - 1
	}
	m.turn(&m.l[i], c)
	m.given(c.index)
	return api.OK, nil
}

// turn is what P16.2 and P16.3 say of the entry's fields.
func (m *told) turn(e *api.Entry, c call) {
	e.Value, e.Index = c.value, c.index
	if c.of == lock && e.Session != c.session {
		e.Locks++
	}
	if c.of == lock {
		e.Session = c.session
	}
	if c.of == unlock {
		e.Session = 0
	}
}

// free is what P16.3 says of Free.
func (m *told) free(session, index uint64) []string {
	var freed []string
	if session == 0 {
		return nil
	}
	for i := range m.l {
		if m.l[i].Session == session {
			m.l[i].Session, m.l[i].Index = 0, index
			m.given(index)
			freed = append(freed, m.l[i].Key)
		}
	}
	sort.Strings(freed)
	return freed
}

// get is what P16.4 says of Get.
func (m *told) get(key string) (api.Entry, bool) {
	if i := m.place(key); i >= 0 {
		return m.l[i], true
	}
	return api.Entry{}, false
}

// lies is what P1.2 says of a key under a prefix.
func lies(key, prefix string) bool {
	n := len(prefix)
	if len(key) < n || key[:n] != prefix {
		return false
	}
	return n == 0 || prefix[n-1] == '/' || len(key) == n || key[n] == '/'
}

// list is what P16.4 says of List.
func (m *told) list(prefix string) []api.Entry {
	var l []api.Entry
	for _, e := range m.l {
		if lies(e.Key, prefix) {
			l = append(l, e)
		}
	}
	sort.Slice(l, func(i, k int) bool { return l[i].Key < l[k].Key })
	return l
}

// copy is another one of which all is as of this one.
func (m *told) copy() *told {
	return &told{m.most, m.last, slices.Clone(m.l)}
}

// clamped is what P15.1 says of a capacity.
func clamped(most int) int {
	if most < 1 {
		return 1
	}
	if most > mostRows {
		return mostRows
	}
	return most
}

// both is a new store, and one by the chapter's words.
func both(t *testing.T, most int) (*kv.Kv, *told) {
	t.Helper()
	k := kv.New(most)
	if k == nil {
		t.Fatalf("New(%d) = nil", most)
	}
	return k, &told{most: clamped(most)}
}

// agree fails where a store tells something else than the chapter's words.
func agree(t *testing.T, k *kv.Kv, m *told) {
	t.Helper()
	if got := k.Last(); got != m.last {
		t.Fatalf("Last = %d, want %d", got, m.last)
	}
	for _, prefix := range []string{"", "a", "a/", "a/b", "b", "z", "\xff"} {
		if got, want := k.List(prefix), m.list(prefix); !slices.Equal(got, want) {
			t.Fatalf("List(%q) = %v, want %v", prefix, got, want)
		}
	}
	for _, key := range keys() {
		got, is := k.Get(key)
		if want, there := m.get(key); got != want || is != there {
			t.Fatalf("Get(%q) = %v, %t, want %v, %t", key, got, is, want, there)
		}
	}
}

// doBoth does a call at both, which must answer the same.
func doBoth(t *testing.T, k *kv.Kv, m *told, c call) (api.Errno, []string) {
	t.Helper()
	before := m.list("")
	err, freed := c.do(k)
	if wantErr, want := m.do(c); err != wantErr || !slices.Equal(freed, want) {
		t.Fatalf("%+v = %d, %q, want %d, %q, of %v", c, err, freed, wantErr, want, before)
	}
	agree(t, k, m)
	return err, freed
}

// must does a call at both, which must be done.
func must(t *testing.T, k *kv.Kv, m *told, c call) {
	t.Helper()
	if err, _ := doBoth(t, k, m, c); err != api.OK {
		t.Fatalf("%+v = %d", c, err)
	}
}

// refused does a call at both, which must be refused with an error.
func refused(t *testing.T, k *kv.Kv, m *told, c call, want api.Errno) {
	t.Helper()
	if err, _ := doBoth(t, k, m, c); err != want {
		t.Fatalf("%+v = %d, want %d", c, err, want)
	}
}

// filled is both, full, with entries that are free, and some that session 9 holds.
func filled(t *testing.T, most int) (*kv.Kv, *told) {
	t.Helper()
	k, m := both(t, most)
	for i := range most {
		c := call{of: set, key: "k/" + strconv.Itoa(i), value: strconv.Itoa(i), session: 9, index: uint64(10 + i)}
		if i%3 == 1 {
			c.of = lock
		}
		must(t, k, m, c)
	}
	return k, m
}

// sample is both with room, an entry "f" that is free, one "h" that session 9 holds, and one "w" that it held.
func sample(t *testing.T) (*kv.Kv, *told) {
	t.Helper()
	k, m := both(t, 4)
	must(t, k, m, call{of: set, key: "f", value: "1", index: 3})
	must(t, k, m, call{of: lock, key: "h", value: "2", session: 9, index: 4})
	must(t, k, m, call{of: lock, key: "w", value: "3", session: 9, index: 5})
	must(t, k, m, call{of: unlock, key: "w", value: "4", session: 9, index: 6})
	return k, m
}

// The chapter's examples.
func TestExamples(t *testing.T) {
	k := kv.New(8)
	for _, x := range []struct {
		c   call
		err api.Errno
	}{
		{call{of: set, key: "a", value: "1", index: 3}, api.OK},
		{call{of: cas, key: "a", value: "2", old: 0, index: 4}, errCas},
		{call{of: cas, key: "a", value: "2", old: 3, index: 4}, api.OK},
		{call{of: lock, key: "a", value: "x", session: 9, index: 5}, api.OK},
		{call{of: lock, key: "a", value: "y", session: 8, index: 6}, errHeld},
		{call{of: unlock, key: "a", value: "z", session: 8, index: 6}, errHeld},
	} {
		if err, _ := x.c.do(k); err != x.err {
			t.Errorf("%+v = %d, want %d", x.c, err, x.err)
		}
	}
	if e, is := k.Get("a"); !is || e != (api.Entry{Key: "a", Value: "x", Session: 9, Locks: 1, Make: 3, Index: 5}) {
		t.Errorf("Get = %v, %t", e, is)
	}
	if l := k.Free(9, 7); !slices.Equal(l, []string{"a"}) {
		t.Errorf("Free = %q", l)
	}
	if err := k.Del("b", 8); err != errNone {
		t.Errorf("Del = %d", err)
	}
}

// P16.1: a new store is empty, and has room for as many entries as it was told, but for one at least and 64 at most.
func TestP161New(t *testing.T) {
	for _, most := range ints() {
		k, m := both(t, most)
		agree(t, k, m)
		for i := range mostRows + 6 {
			want := api.OK
			if i >= m.most {
				want = errFull
			}
			of := []string{set, cas, lock}[i%3]
			c := call{of: of, key: "k" + strconv.Itoa(i), session: 2, index: uint64(i + 1)}
			if err, _ := c.do(k); err != want {
				t.Fatalf("entry %d by %s into a New(%d): %d, want %d", i, of, most, err, want)
			}
		}
		if len(k.List("")) != m.most || k.Last() != uint64(m.most) {
			t.Fatalf("New(%d) has %d entries, and the last index %d", most, len(k.List("")), k.Last())
		}
	}
}

// P16.1: each key may be, and no two of them meet.
func TestP161Keys(t *testing.T) {
	for _, of := range []string{set, cas, lock} {
		k, m := both(t, mostRows)
		for i, key := range keys() {
			must(t, k, m, call{of: of, key: key, value: strconv.Itoa(i), session: 3, index: uint64(i + 1)})
		}
		for i, key := range keys() {
			e, is := k.Get(key)
			if !is || e.Key != key || e.Value != strconv.Itoa(i) {
				t.Errorf("Get(%q) = %v, %t", key, e, is)
			}
			must(t, k, m, call{of: delCas, key: key, old: uint64(i + 1), index: 50})
		}
	}
}

// P16.1: a text that is no key has ErrName first, whatever else is wrong.
func TestP161Names(t *testing.T) {
	k, m := filled(t, 4)
	room, n := sample(t)
	for _, key := range others() {
		for _, of := range all() {
			for _, value := range append(longs(), "v") {
				for _, number := range []uint64{0, 9} {
					c := call{of: of, key: key, value: value, old: number, session: number, index: 80}
					refused(t, k, m, c, errName)
					refused(t, room, n, c, errName)
				}
			}
		}
		if e, is := k.Get(key); is || e != (api.Entry{}) {
			t.Errorf("Get(%q) = %v, %t", key, e, is)
		}
	}
}

// P16.1: a value may have 64 bytes; a longer one has ErrLong ahead of each function's own errors.
func TestP161Values(t *testing.T) {
	for _, of := range []string{set, cas, lock, unlock} {
		for _, value := range values() {
			k, m := both(t, 3)
			must(t, k, m, call{of: lock, key: "a", value: "old", session: 9, index: 3})
			must(t, k, m, call{of: of, key: "a", value: value, old: 3, session: 9, index: 4})
			if e, _ := k.Get("a"); e.Value != value {
				t.Errorf("%s of %q: %v", of, value, e)
			}
		}
		k, m := filled(t, 4)
		for _, value := range longs() {
			for _, key := range []string{"k/0", "k/1", "k/9"} {
				for _, number := range []uint64{0, 8, 9, 10, 11} {
					refused(t, k, m, call{of: of, key: key, value: value, old: number, session: number, index: 80}, errLong)
				}
			}
		}
	}
}

// P16.1: into a full store no new key comes, ErrFull is behind each function's own errors, and what is there can be turned.
func TestP161Full(t *testing.T) {
	for most := 1; most <= mostRows; most++ {
		k, m := filled(t, most)
		refused(t, k, m, call{of: set, key: "x", index: 90}, errFull)
		refused(t, k, m, call{of: cas, key: "x", index: 90}, errFull)
		refused(t, k, m, call{of: cas, key: "x", old: 7, index: 90}, errCas)
		refused(t, k, m, call{of: lock, key: "x", session: 9, index: 90}, errFull)
		refused(t, k, m, call{of: lock, key: "x", index: 90}, errArg)
		refused(t, k, m, call{of: unlock, key: "x", session: 9, index: 90}, errNone)
		refused(t, k, m, call{of: del, key: "x", index: 90}, errNone)
		refused(t, k, m, call{of: delCas, key: "x", index: 90}, errNone)
		must(t, k, m, call{of: set, key: "k/0", value: "new", index: 91})
		must(t, k, m, call{of: lock, key: "k/0", session: 9, index: 92})
		must(t, k, m, call{of: unlock, key: "k/0", session: 9, index: 93})
		must(t, k, m, call{of: cas, key: "k/0", old: 93, index: 94})
		must(t, k, m, call{of: del, key: "k/0", index: 95})
		must(t, k, m, call{of: lock, key: "x", session: 9, index: 96})
		refused(t, k, m, call{of: set, key: "k/0", index: 97}, errFull)
	}
}

// P16.1 to P16.3: each function with each kind of key, value, index and session, into each kind of store; what is refused leaves no trace.
func TestErrors(t *testing.T) {
	texts := []string{"v", longs()[0]}
	for _, of := range all() {
		for _, key := range []string{"f", "h", "w", "n", "A", ""} {
			for _, value := range texts {
				for _, old := range []uint64{0, 2, 3, 4, 5, 6, 7, greatest} {
					for _, session := range []uint64{0, 1, 8, 9, 10, greatest} {
						c := call{of, key, value, old, session, 30}
						k, m := sample(t)
						doBoth(t, k, m, c)
						k, m = sample(t)
						must(t, k, m, call{of: set, key: "x", index: 7})
						doBoth(t, k, m, c)
					}
				}
			}
		}
	}
}

// P16.2: Set makes an entry whose other fields are zero; of one that is there it leaves them, and a session that holds it does not hinder it.
func TestP162Set(t *testing.T) {
	k, m := both(t, 3)
	must(t, k, m, call{of: set, key: "a", value: "1", index: 5})
	if e, _ := k.Get("a"); e != (api.Entry{Key: "a", Value: "1", Make: 5, Index: 5}) {
		t.Errorf("a new entry is %v", e)
	}
	must(t, k, m, call{of: lock, key: "a", value: "2", session: 7, index: 6})
	must(t, k, m, call{of: set, key: "a", value: "3", index: 8})
	if e, _ := k.Get("a"); e != (api.Entry{Key: "a", Value: "3", Session: 7, Locks: 1, Make: 5, Index: 8}) {
		t.Errorf("an entry that was set again is %v", e)
	}
	must(t, k, m, call{of: set, key: "b", index: 9})
	if e, is := k.Get("b"); !is || e != (api.Entry{Key: "b", Make: 9, Index: 9}) {
		t.Errorf("an entry of the empty value is %v, %t", e, is)
	}
	must(t, k, m, call{of: set, key: "c", index: 0})
	if e, is := k.Get("c"); !is || e != (api.Entry{Key: "c"}) || len(k.List("")) != 3 {
		t.Errorf("an entry of the empty value at index 0 is %v, %t", e, is)
	}
}

// P16.2: Set with each two indexes, also falling ones: Make stays.
func TestP162Indexes(t *testing.T) {
	for _, first := range numbers() {
		for _, then := range numbers() {
			k, m := both(t, 3)
			must(t, k, m, call{of: set, key: "a", value: "1", index: first})
			must(t, k, m, call{of: set, key: "a", value: "1", index: then})
			if e, _ := k.Get("a"); e.Make != first || e.Index != then || k.Last() != max(first, then) {
				t.Errorf("behind indexes %d and %d: %v, Last %d", first, then, e, k.Last())
			}
		}
	}
}

// P16.2: Cas with each old index, of an entry of each index, and of none.
func TestP162Cas(t *testing.T) {
	for _, old := range numbers() {
		k, m := both(t, 3)
		want := api.OK
		if old != 0 {
			want = errCas
		}
		refused(t, k, m, call{of: cas, key: "a", value: "1", old: old, index: 40}, want)
		for _, index := range numbers() {
			k, m = both(t, 1)
			must(t, k, m, call{of: lock, key: "a", value: "1", session: 7, index: index})
			want = api.OK
			if old == 0 || old != index {
				want = errCas
			}
			refused(t, k, m, call{of: cas, key: "a", value: "2", old: old, index: 40}, want)
			if e, _ := k.Get("a"); want == api.OK && e != (api.Entry{Key: "a", Value: "2", Session: 7, Locks: 1, Make: index, Index: 40}) {
				t.Errorf("Cas made %v", e)
			}
		}
	}
}

// P16.2: Cas looks at the Index, not at the Make, also of an entry that went and came again.
func TestP162Make(t *testing.T) {
	k, m := both(t, 3)
	must(t, k, m, call{of: set, key: "a", index: 2})
	must(t, k, m, call{of: set, key: "a", index: 3})
	refused(t, k, m, call{of: cas, key: "a", old: 2, index: 4}, errCas)
	refused(t, k, m, call{of: delCas, key: "a", old: 2, index: 4}, errCas)
	must(t, k, m, call{of: del, key: "a", index: 4})
	refused(t, k, m, call{of: cas, key: "a", old: 3, index: 5}, errCas)
	refused(t, k, m, call{of: delCas, key: "a", old: 3, index: 5}, errNone)
	must(t, k, m, call{of: cas, key: "a", value: "new", index: 5})
	if e, _ := k.Get("a"); e != (api.Entry{Key: "a", Value: "new", Make: 5, Index: 5}) {
		t.Errorf("an entry that came again is %v", e)
	}
}

// P16.2: Del takes just that entry away, held or not, once.
func TestP162Del(t *testing.T) {
	for _, key := range []string{"f", "h", "w"} {
		k, m := sample(t)
		must(t, k, m, call{of: del, key: key, index: 7})
		refused(t, k, m, call{of: del, key: key, index: 8}, errNone)
		if _, is := k.Get(key); is || len(k.List("")) != 2 || k.Last() != 7 {
			t.Errorf("Del(%q): %v, Last %d", key, k.List(""), k.Last())
		}
		must(t, k, m, call{of: lock, key: key, session: 8, index: 9})
		if e, _ := k.Get(key); e != (api.Entry{Key: key, Session: 8, Locks: 1, Make: 9, Index: 9}) {
			t.Errorf("an entry that came again is %v", e)
		}
	}
}

// P16.2: DelCas with each old index, of an entry of each index; 0 is an index as any other.
func TestP162DelCas(t *testing.T) {
	for _, old := range numbers() {
		for _, index := range numbers() {
			k, m := both(t, 3)
			must(t, k, m, call{of: lock, key: "a", session: 7, index: index})
			refused(t, k, m, call{of: delCas, key: "b", old: old, index: 40}, errNone)
			want := api.OK
			if old != index {
				want = errCas
			}
			refused(t, k, m, call{of: delCas, key: "a", old: old, index: 40}, want)
			if _, is := k.Get("a"); is != (want != api.OK) {
				t.Errorf("DelCas with %d of an entry of index %d left it: %t", old, index, is)
			}
		}
	}
}

// P16.3: Lock with each session, of an entry that each session holds, and of none; Locks counts takings, not calls.
func TestP163Lock(t *testing.T) {
	for _, holder := range numbers() {
		for _, session := range numbers() {
			k, m := both(t, 2)
			if holder == 0 {
				must(t, k, m, call{of: set, key: "a", index: 1})
			} else {
				must(t, k, m, call{of: lock, key: "a", session: holder, index: 1})
			}
			want := api.OK
			if session == 0 {
				want = errArg
			} else if holder != 0 && session != holder {
				want = errHeld
			}
			refused(t, k, m, call{of: lock, key: "a", value: "x", session: session, index: 2}, want)
			if e, _ := k.Get("a"); want == api.OK && e != (api.Entry{Key: "a", Value: "x", Session: session, Locks: 1, Make: 1, Index: 2}) {
				t.Errorf("session %d locked what %d holds: %v", session, holder, e)
			}
			if want == errArg {
				refused(t, k, m, call{of: lock, key: "new", index: 2}, errArg)
			} else {
				must(t, k, m, call{of: lock, key: "new", session: session, index: 2})
			}
		}
	}
}

// P16.3: Locks goes up by one with each taking, whoever takes.
func TestP163Locks(t *testing.T) {
	k, m := both(t, 1)
	for i := range uint64(40) {
		session := 1 + i%3
		must(t, k, m, call{of: lock, key: "a", value: "x", session: session, index: 3*i + 1})
		must(t, k, m, call{of: lock, key: "a", value: "y", session: session, index: 3*i + 2})
		if e, _ := k.Get("a"); e.Locks != i+1 || e.Session != session || e.Value != "y" {
			t.Fatalf("behind %d takings: %v", i+1, e)
		}
		if i%2 == 0 {
			must(t, k, m, call{of: unlock, key: "a", value: "z", session: session, index: 3*i + 3})
		} else {
			must(t, k, m, call{of: free, session: session, index: 3*i + 3})
		}
		if e, _ := k.Get("a"); e.Locks != i+1 || e.Session != 0 {
			t.Fatalf("behind %d leavings: %v", i+1, e)
		}
	}
}

// P16.3: Unlock with each session, of an entry that each session holds, and of none.
func TestP163Unlock(t *testing.T) {
	for _, holder := range numbers() {
		for _, session := range numbers() {
			k, m := both(t, 2)
			if holder == 0 {
				must(t, k, m, call{of: set, key: "a", index: 1})
			} else {
				must(t, k, m, call{of: lock, key: "a", session: holder, index: 1})
			}
			want := api.OK
			if session == 0 || session != holder {
				want = errHeld
			}
			refused(t, k, m, call{of: unlock, key: "b", value: "x", session: session, index: 2}, errNone)
			refused(t, k, m, call{of: unlock, key: "a", value: "x", session: session, index: 2}, want)
			if e, _ := k.Get("a"); want == api.OK && e != (api.Entry{Key: "a", Value: "x", Locks: 1, Make: 1, Index: 2}) {
				t.Errorf("session %d unlocked what %d holds: %v", session, holder, e)
			}
			if want == api.OK {
				refused(t, k, m, call{of: unlock, key: "a", value: "x", session: session, index: 3}, errHeld)
			}
		}
	}
}

// P16.3: Free lets go of just what the session holds, and tells it in order; Value, Locks and Make stay.
func TestP163Free(t *testing.T) {
	for _, session := range numbers() {
		k, m := both(t, mostRows)
		l := keys()
		for i := range l {
			holder := numbers()[i%3*7]
			c := call{of: lock, key: l[len(l)-1-i], value: strconv.Itoa(i), session: holder, index: uint64(10 + i)}
			if holder == 0 {
				c.of = set
			}
			must(t, k, m, c)
		}
		before := k.List("")
		_, freed := doBoth(t, k, m, call{of: free, session: session, index: 70})
		var want []string
		for i, e := range before {
			if session != 0 && e.Session == session {
				want = append(want, e.Key)
				before[i].Session, before[i].Index = 0, 70
			}
		}
		if !slices.Equal(freed, want) || !slices.Equal(k.List(""), before) {
			t.Errorf("Free(%d) = %q, want %q, and left %v", session, freed, want, k.List(""))
		}
		if len(want) == 0 && k.Last() == 70 {
			t.Errorf("Free(%d) of nothing gave the table its index", session)
		}
		if _, freed = doBoth(t, k, m, call{of: free, session: session, index: 71}); len(freed) != 0 {
			t.Errorf("Free(%d) again = %q", session, freed)
		}
	}
}

// P16.3: Free of a full store that one session holds, with any index.
func TestP163FreeAll(t *testing.T) {
	for _, index := range numbers() {
		k, m := both(t, mostRows)
		for i := range mostRows {
			must(t, k, m, call{of: lock, key: strconv.Itoa(i), session: 5, index: 100})
		}
		if _, freed := doBoth(t, k, m, call{of: free, session: 5, index: index}); len(freed) != mostRows || !slices.IsSorted(freed) {
			t.Errorf("Free = %q", freed)
		}
		for _, e := range k.List("") {
			if e.Session != 0 || e.Index != index || e.Make != 100 {
				t.Errorf("Free left %v", e)
			}
		}
	}
}

// P16.4: each modification gives the table its index, a refused one does not, and one that changes nothing else does.
func TestP164Index(t *testing.T) {
	k, m := both(t, 2)
	for i, c := range []call{
		{of: set, key: "a", value: "1"}, {of: set, key: "a", value: "1"}, {of: cas, key: "b", value: "1"},
		{of: lock, key: "a", value: "1", session: 3}, {of: lock, key: "a", value: "1", session: 3},
		{of: unlock, key: "a", value: "1", session: 3}, {of: lock, key: "b", session: 3}, {of: free, session: 3},
		{of: del, key: "a"}, {of: lock, key: "a", session: 3}, {of: del, key: "b"},
	} {
		c.index = uint64(i + 1)
		must(t, k, m, c)
		if k.Last() != c.index {
			t.Fatalf("Last behind %+v = %d", c, k.Last())
		}
		if e, is := k.Get(c.key); is && e.Index != c.index {
			t.Fatalf("%+v left %v", c, e)
		}
	}
	last := k.Last()
	for _, c := range []call{
		{of: set, key: "A"}, {of: cas, key: "a"}, {of: cas, key: "a", old: 3}, {of: del, key: "b"}, {of: delCas, key: "b"}, {of: delCas, key: "a", old: 3},
		{of: lock, key: "a"}, {of: lock, key: "a", session: 4}, {of: unlock, key: "a", session: 4}, {of: unlock, key: "b", session: 3},
		{of: free}, {of: free, session: 4}, {of: set, key: "a", value: longs()[0]},
	} {
		c.index = 50
		doBoth(t, k, m, c)
		if k.Last() != last {
			t.Fatalf("Last behind %+v = %d", c, k.Last())
		}
	}
	k.Set("a", "", 7)
	if k.Last() != last {
		t.Errorf("Last behind a lower index = %d, want %d", k.Last(), last)
	}
}

// P16.4: Get of keys that are there, and of texts around them.
func TestP164Get(t *testing.T) {
	k, _ := sample(t)
	if e, is := k.Get("h"); !is || e != (api.Entry{Key: "h", Value: "2", Session: 9, Locks: 1, Make: 4, Index: 4}) {
		t.Errorf("Get = %v, %t", e, is)
	}
	if e, is := k.Get("w"); !is || e != (api.Entry{Key: "w", Value: "4", Locks: 1, Make: 5, Index: 6}) {
		t.Errorf("Get = %v, %t", e, is)
	}
	for _, key := range append(others(), "e", "g", "f/", "ff", "H", "h\x00") {
		if e, is := k.Get(key); is || e != (api.Entry{}) {
			t.Errorf("Get(%q) = %v, %t", key, e, is)
		}
	}
}

// P16.4: List takes whole parts of keys, the empty prefix takes all, and any text is a prefix.
func TestP164List(t *testing.T) {
	k, m := both(t, mostRows)
	l := []string{"b", "a/b/c", "ab", "a/bc", "a", "a-", "a/b", "a.b/c", "a0"}
	for i, key := range l {
		must(t, k, m, call{of: lock, key: key, value: key, session: uint64(i + 1), index: uint64(i + 1)})
	}
	for _, prefix := range append(append(keys(), others()...), "a/b/", "a/b/c/", "a/b/c/d", "c") {
		if got, want := k.List(prefix), m.list(prefix); !slices.Equal(got, want) {
			t.Errorf("List(%q) = %v, want %v", prefix, got, want)
		}
	}
	for _, x := range []struct {
		prefix string
		want   []string
	}{
		{"", []string{"a", "a-", "a.b/c", "a/b", "a/b/c", "a/bc", "a0", "ab", "b"}},
		{"a", []string{"a", "a/b", "a/b/c", "a/bc"}},
		{"a/", []string{"a/b", "a/b/c", "a/bc"}},
		{"a/b", []string{"a/b", "a/b/c"}},
		{"c", nil},
	} {
		var got []string
		for _, e := range k.List(x.prefix) {
			got = append(got, e.Key)
		}
		if !slices.Equal(got, x.want) {
			t.Errorf("List(%q) = %q, want %q", x.prefix, got, x.want)
		}
	}
}

// P16.4: a copy has all that the store has, its capacity too, and each goes on by itself.
func TestP164Copy(t *testing.T) {
	c := chance(1)
	for range 60 {
		k, m := both(t, 1+c.below(9))
		for range c.below(40) {
			doBoth(t, k, m, c.any(c.number(40)))
		}
		other, n := k.Copy(), m.copy()
		agree(t, other, n)
		for range 30 {
			doBoth(t, k, m, c.any(c.number(40)))
			agree(t, other, n)
			doBoth(t, other, n, c.any(c.number(40)))
			agree(t, k, m)
		}
	}
	empty, m := both(t, 1)
	must(t, empty.Copy(), m.copy(), call{of: set, key: "a", index: 1})
	agree(t, empty, m)
}

// entries is entries that may be loaded with the last index 20.
func entries() []api.Entry {
	return []api.Entry{
		{Key: "a", Value: strings.Repeat("v", mostValue), Session: greatest, Locks: greatest, Make: 0, Index: 0},
		{Key: "a-", Make: 7, Index: 7},
		{Key: "a/b", Value: "\x00", Session: 3, Make: 0, Index: 20},
		{Key: "b", Value: "x", Locks: 5, Make: 19, Index: 20},
		{Key: strings.Repeat("c", mostKey), Session: 3, Locks: 2, Make: 20, Index: 20},
	}
}

// loaded fails where entries that may be loaded are not, with all that they have.
func loaded(t *testing.T, most int, l []api.Entry, last uint64) (*kv.Kv, *told) {
	t.Helper()
	given := slices.Clone(l)
	k, err := kv.Load(most, l, last)
	if err != api.OK || k == nil {
		t.Fatalf("Load(%d, %v, %d) = %v, %d", most, l, last, k, err)
	}
	if !slices.Equal(l, given) {
		t.Fatalf("Load turned its argument to %v", l)
	}
	m := &told{clamped(most), last, given}
	agree(t, k, m)
	return k, m
}

// unloaded fails where entries that may not be loaded are.
func unloaded(t *testing.T, most int, l []api.Entry, last uint64) {
	t.Helper()
	given := slices.Clone(l)
	if k, err := kv.Load(most, l, last); k != nil || err != errArg {
		t.Errorf("Load(%d, %v, %d) = %v, %d", most, l, last, k, err)
	}
	if !slices.Equal(l, given) {
		t.Errorf("Load turned its argument to %v", l)
	}
}

// P16.5: Load has exactly the entries, with all their fields, and the last index, and goes on from there.
func TestP165Load(t *testing.T) {
	for n := range len(entries()) + 1 {
		for _, last := range []uint64{20, 21, greatest} {
			k, m := loaded(t, 6, entries()[:n], last)
			must(t, k, m, call{of: set, key: "x", index: 30})
		}
	}
	for _, last := range numbers() {
		loaded(t, 3, nil, last)
		loaded(t, 3, []api.Entry{}, last)
		loaded(t, 3, []api.Entry{{Key: "a", Make: last, Index: last}}, last)
		loaded(t, 3, []api.Entry{{Key: "a", Make: 0, Index: last}, {Key: "b"}}, last)
	}
	k, m := loaded(t, 5, entries(), 25)
	refused(t, k, m, call{of: set, key: "x", index: 30}, errFull)
	refused(t, k, m, call{of: lock, key: "a/b", session: 4, index: 30}, errHeld)
	must(t, k, m, call{of: lock, key: "b", session: 3, index: 30})
	if _, freed := doBoth(t, k, m, call{of: free, session: 3, index: 31}); len(freed) != 3 {
		t.Errorf("Free = %q", freed)
	}
	must(t, k, m, call{of: set, key: "a", value: "w", index: 32})
	if e, _ := k.Get("a"); e != (api.Entry{Key: "a", Value: "w", Session: greatest, Locks: greatest, Make: 0, Index: 32}) {
		t.Errorf("Get = %v", e)
	}
}

// P16.5: an entry at each place that may not be.
func TestP165Wrong(t *testing.T) {
	for i := range entries() {
		with := func(turn func(e *api.Entry)) []api.Entry {
			l := entries()
			turn(&l[i])
			return l
		}
		for _, key := range others() {
			unloaded(t, 9, with(func(e *api.Entry) { e.Key = key }), 20)
			unloaded(t, 9, []api.Entry{{Key: key}}, 20)
		}
		for _, value := range longs() {
			unloaded(t, 9, with(func(e *api.Entry) { e.Value = value }), 20)
		}
		for _, index := range numbers() {
			if index > 0 {
				unloaded(t, 9, with(func(e *api.Entry) { e.Make, e.Index = index, index-1 }), greatest)
			}
			if index > 20 {
				unloaded(t, 9, with(func(e *api.Entry) { e.Make, e.Index = 0, index }), index-1)
				loaded(t, 9, with(func(e *api.Entry) { e.Make, e.Index = 0, index }), index)
			}
		}
		unloaded(t, 9, with(func(e *api.Entry) { e.Make, e.Index = 21, 21 }), 20)
		unloaded(t, 9, with(func(e *api.Entry) { e.Make = 21 }), 20)
	}
}

// P16.5: the keys rise, in byte order, each once.
func TestP165Order(t *testing.T) {
	rising := []string{"-", ".", "./-", "0", "_", "a", "a-b", "a.b", "a/b", "a/b/c", "a0", "aa", "b"}
	for _, a := range rising {
		for _, b := range rising {
			l := []api.Entry{{Key: a, Index: 1}, {Key: b, Index: 2}}
			if slices.Index(rising, a) < slices.Index(rising, b) {
				loaded(t, 9, l, 5)
			} else {
				unloaded(t, 9, l, 5)
			}
		}
	}
	for i := range entries() {
		twice := slices.Insert(entries(), i, entries()[i])
		unloaded(t, 9, twice, 20)
		for k := range i {
			l := entries()
			l[i], l[k] = l[k], l[i]
			unloaded(t, 9, l, 20)
		}
	}
}

// P16.5: as many entries as the capacity allows, for each capacity and those beyond its bounds.
func TestP165Most(t *testing.T) {
	var l []api.Entry
	for i := range mostRows + 40 {
		l = append(l, api.Entry{Key: "k" + strconv.Itoa(100+i), Value: strconv.Itoa(i), Make: uint64(i), Index: uint64(i)})
	}
	for _, most := range ints() {
		room := clamped(most)
		k, m := loaded(t, most, l[:room], 200)
		refused(t, k, m, call{of: set, key: "x", index: 201}, errFull)
		must(t, k, m, call{of: set, key: "k100", index: 201})
		if room > 1 {
			k, m = loaded(t, most, l[:room-1], 200)
			must(t, k, m, call{of: set, key: "x", index: 201})
			refused(t, k, m, call{of: set, key: "y", index: 201}, errFull)
		}
		unloaded(t, most, l[:room+1], 200)
		unloaded(t, most, l, 200)
	}
}

// P16.6: a store that is not there, or that no call made, has ErrNil, whatever else is wrong, and does nothing else.
func TestP166NoStore(t *testing.T) {
	for _, k := range []*kv.Kv{nil, {}, new(kv.Kv)} {
		for range 2 {
			for _, of := range all() {
				for _, key := range []string{"a", "", "A", "a//b"} {
					for _, value := range []string{"", "v", longs()[0]} {
						for _, number := range numbers() {
							if err, _ := (call{of, key, value, number, number, number}).do(k); err != errNil {
								t.Errorf("%s(%q) = %d", of, key, err)
							}
						}
					}
				}
			}
			for _, number := range numbers() {
				if l := k.Free(number, number); len(l) != 0 {
					t.Errorf("Free = %q", l)
				}
			}
			for _, text := range append(keys(), others()...) {
				if e, is := k.Get(text); is || e != (api.Entry{}) {
					t.Errorf("Get(%q) = %v, %t", text, e, is)
				}
				if l := k.List(text); len(l) != 0 {
					t.Errorf("List(%q) = %v", text, l)
				}
			}
			if k.Last() != 0 || k.Copy() != nil {
				t.Errorf("Last %d, Copy %v", k.Last(), k.Copy())
			}
		}
	}
}

// P16.7: where indexes ascend, of some Cas with the same old index only the first one is done, whatever else is done between.
func TestP167Cas(t *testing.T) {
	c := chance(2)
	for range 40 {
		k, m := both(t, 4)
		index, done := uint64(0), map[[2]string]int{}
		for range 120 {
			index++
			x := c.any(index)
			x.key = c.one(keys()[:2])
			if e, _ := k.Get(x.key); c.below(2) == 0 {
				x.old = e.Index
			}
			if x.of == del || x.of == delCas {
				x.of = cas
			}
			if err, _ := doBoth(t, k, m, x); x.of == cas && err == api.OK {
				done[[2]string{x.key, strconv.FormatUint(x.old, 10)}]++
			}
		}
		for what, times := range done {
			if times > 1 {
				t.Fatalf("%d Cas of %q with the same old index were done", times, what)
			}
		}
	}
}

// P16.7: who holds an entry holds it till it is unlocked, freed or gone: no other session holds it in between.
func TestP167Held(t *testing.T) {
	c := chance(3)
	for range 60 {
		k, m := both(t, 6)
		for i := range uint64(80) {
			before := k.List("")
			x := c.any(i + 1)
			doBoth(t, k, m, x)
			for _, e := range before {
				now, is := k.Get(e.Key)
				left := (x.of == unlock && x.key == e.Key || x.of == free) && x.session == e.Session && now.Session == 0
				if is && e.Session != 0 && now.Session != e.Session && !left {
					t.Fatalf("%+v turned %v to %v", x, e, now)
				}
			}
		}
	}
}

// P16.7: where indexes ascend, a store that is loaded from its List and Last is equal to it, and does the same from then on.
func TestP167Loaded(t *testing.T) {
	c := chance(4)
	for range 60 {
		most := c.below(mostRows+3) - 1
		k, m := both(t, most)
		index := uint64(0)
		for range 60 {
			index += uint64(c.below(3))
			doBoth(t, k, m, c.any(index))
		}
		other, err := kv.Load(most, k.List(""), k.Last())
		if err != api.OK {
			t.Fatalf("Load(%v, %d): error %d", k.List(""), k.Last(), err)
		}
		n := m.copy()
		agree(t, other, n)
		for range 40 {
			index += uint64(c.below(3))
			x := c.any(index)
			doBoth(t, k, m, x)
			doBoth(t, other, n, x)
		}
	}
}

// P16.1 to P16.4: through any calls a store does as the chapter's words have it.
func TestAny(t *testing.T) {
	c := chance(5)
	for range 150 {
		k, m := both(t, c.below(12)-1)
		for range 100 {
			doBoth(t, k, m, c.any(c.number(20)))
		}
	}
}

// R3: what List and Free answer shares no memory with the store, nor with another answer.
func TestResults(t *testing.T) {
	k, m := sample(t)
	other, n := k.Copy(), m.copy()
	for range 3 {
		list := k.List("")
		for _, l := range [][]api.Entry{k.List(""), k.List("h"), other.List("")} {
			for l := l[:cap(l)]; len(l) > 0; l = l[1:] {
				l[0] = api.Entry{Key: "q", Session: 3, Index: 99}
			}
		}
		if !slices.Equal(list, m.list("")) {
			t.Fatalf("an answer was changed by way of another: %v", list)
		}
		agree(t, k, m)
		agree(t, other, n)
	}
	freed := k.Free(9, 8)
	m.do(call{of: free, session: 9, index: 8})
	for l := freed[:cap(freed)]; len(l) > 0; l = l[1:] {
		l[0] = "q"
	}
	agree(t, k, m)
}

// R3: Load keeps nothing of its argument, and writes nothing behind its end.
func TestArgument(t *testing.T) {
	l := entries()
	k, m := loaded(t, 9, l[:3], 20)
	if !slices.Equal(l, entries()) {
		t.Fatalf("Load turned its argument to %v", l)
	}
	clear(l)
	agree(t, k, m)
	must(t, k, m, call{of: set, key: "a", value: "1", index: 21})
	must(t, k, m, call{of: set, key: "z", value: "1", index: 22})
	if !slices.Equal(l, make([]api.Entry, len(l))) {
		t.Fatalf("a store that was loaded wrote into %v", l)
	}
}

// R4: two stores share nothing, be they made, or loaded from the same entries.
func TestTwo(t *testing.T) {
	c := chance(6)
	one, m := both(t, 5)
	two, n := loaded(t, 7, entries(), 20)
	three, o := loaded(t, 7, entries(), 20)
	for range 150 {
		doBoth(t, one, m, c.any(c.number(40)))
		agree(t, two, n)
		doBoth(t, two, n, c.any(c.number(40)))
		agree(t, three, o)
		doBoth(t, three, o, c.any(c.number(40)))
		agree(t, one, m)
	}
}

// R3: an answer stays as it is, whatever is done later.
func TestKept(t *testing.T) {
	k, m := sample(t)
	list, want := k.List(""), m.list("")
	c := chance(7)
	for range 150 {
		doBoth(t, k, m, c.any(c.number(40)))
		if !slices.Equal(list, want) {
			t.Fatalf("an answer was changed: %v", list)
		}
	}
}
