package table_test

import (
	"math"
	"slices"
	"sort"
	"strconv"
	"strings"
	"testing"

	"sodality/api"
	"sodality/table"
)

// The numbers of the chapter and of the words it leans on: how many rows there may be, the errors, and the greatest index.
const (
	mostRows = 64
	errNil   = 1
	errFull  = 5
	greatest = math.MaxUint64
)

type row = table.Row[int]

// ints is numbers of any kind: those around the limit of rows, and where integers of any width end.
func ints() []int {
	l := []int{math.MinInt, math.MinInt + 1, math.MinInt32, math.MaxInt32, math.MaxInt - 1, math.MaxInt, -256, 255, 256, 1 << 32, 1<<32 + 3, -1 << 32, 1 << 62}
	for n := -9; n <= 70; n++ {
		l = append(l, n)
	}
	return l
}

// indexes is small indexes, and those around where narrower numbers end or turn their sign.
func indexes() []uint64 {
	return []uint64{0, 1, 2, 3, 7, 255, 256, 1<<31 - 1, 1 << 31, 1<<32 - 1, 1 << 32, 1<<53 + 1, 1<<63 - 1, 1 << 63, greatest - 1, greatest}
}

// keys is keys of any kind, whether chapter 1 has them as keys or not: a table takes all of them.
func keys() []string {
	return []string{
		"", "a", "b", "aa", "ab", "a/", "a/b", "a/b/c", "a/bc", "a//b", "/", "//", "/a", "a-b", "a.b", "a0", "A", "Z", "z", "zz",
		"*", " ", "~", "\x00", "a\x00", "a\x00b", "\x7f", "\x80", "\xff", "a\xff", "\xff\xff", "\xc3\xa4", "\xc3", "\u4e16", "\U0001f600",
		strings.Repeat("a", 24), strings.Repeat("a", 25), strings.Repeat("a", 32), strings.Repeat("a", 33), strings.Repeat("a/", 500),
	}
}

// chance is numbers that follow from a seed.
type chance uint64

// below is the next number, from 0 to n-1.
func (c *chance) below(n int) int {
	*c = *c*6364136223846793005 + 1442695040888963407
	return int(uint64(*c)>>33) % n
}

// key is any key.
func (c *chance) key() string {
	return keys()[c.below(len(keys()))]
}

// index is any index: mostly a small one, so that they often meet.
func (c *chance) index() uint64 {
	if c.below(5) == 0 {
		return indexes()[c.below(len(indexes()))]
	}
	return uint64(c.below(40))
}

// told is a table by the words of the chapter: its capacity, its last index, and its rows in no order.
type told struct {
	most int
	last uint64
	rows []row
}

// place is where the row of a key is, or -1.
func (m *told) place(key string) int {
	return slices.IndexFunc(m.rows, func(r row) bool { return r.Key == key })
}

// given is what the chapter says of the last index.
func (m *told) given(index uint64) {
	if index > m.last {
		m.last = index
	}
}

// put is what P15.2 says of Put.
func (m *told) put(key string, v int, index uint64) (row, api.Errno) {
	i := m.place(key)
	if i < 0 && len(m.rows) == m.most {
		return row{}, errFull
	}
	if i < 0 {
		m.rows = append(m.rows, row{Key: key, Make: index})
		i = len(m.rows) - 1
	}
	m.rows[i].Value, m.rows[i].Index = v, index
	m.given(index)
	return m.rows[i], api.OK
}

// drop is what P15.2 says of Drop.
func (m *told) drop(key string, index uint64) bool {
	i := m.place(key)
	if i < 0 {
		return false
	}
	m.rows = slices.Delete(m.rows, i, i+1)
	m.given(index)
	return true
}

// get is what P15.3 says of Get.
func (m *told) get(key string) (row, bool) {
	if i := m.place(key); i >= 0 {
		return m.rows[i], true
	}
	return row{}, false
}

// before is the ascending byte order, byte by byte.
func before(a, b string) bool {
	for i := 0; i < len(a) && i < len(b); i++ {
		if a[i] != b[i] {
			return a[i] < b[i]
		}
	}
	return len(a) < len(b)
}

// list is what P15.3 says of List.
func (m *told) list() []row {
	l := append([]row(nil), m.rows...)
	sort.Slice(l, func(i, k int) bool { return before(l[i].Key, l[k].Key) })
	return l
}

// lies is what P1.2 says of a key under a prefix.
func lies(key, prefix string) bool {
	n := len(prefix)
	if len(key) < n || key[:n] != prefix {
		return false
	}
	return n == 0 || prefix[n-1] == '/' || len(key) == n || key[n] == '/'
}

// under is what P15.3 says of Under.
func (m *told) under(prefix string) []row {
	var l []row
	for _, r := range m.list() {
		if lies(r.Key, prefix) {
			l = append(l, r)
		}
	}
	return l
}

// both is a new table, and one by the chapter's words.
func both(t *testing.T, most int) (*table.Table[int], *told) {
	t.Helper()
	w := table.New[int](most)
	if w == nil {
		t.Fatalf("New(%d) = nil", most)
	}
	m := &told{most: most}
	if most < 1 {
		m.most = 1
	}
	if most > mostRows {
		m.most = mostRows
	}
	return w, m
}

// pairs is the keys and values that Each goes over.
func pairs(w *table.Table[int]) []row {
	var l []row
	for key, v := range w.Each() {
		l = append(l, row{Key: key, Value: v})
	}
	return l
}

// bare is rows without their indexes.
func bare(l []row) []row {
	var out []row
	for _, r := range l {
		out = append(out, row{Key: r.Key, Value: r.Value})
	}
	return out
}

// agree fails where a table tells something else than the chapter's words.
func agree(t *testing.T, w *table.Table[int], m *told) {
	t.Helper()
	if got, want := w.List(), m.list(); !slices.Equal(got, want) {
		t.Fatalf("List = %v, want %v", got, want)
	}
	if got, want := pairs(w), bare(m.list()); !slices.Equal(got, want) {
		t.Fatalf("Each = %v, want %v", got, want)
	}
	if got := w.Count(); got != len(m.rows) {
		t.Fatalf("Count = %d, want %d", got, len(m.rows))
	}
	if got := w.Last(); got != m.last {
		t.Fatalf("Last = %d, want %d", got, m.last)
	}
	for _, key := range keys() {
		got, is := w.Get(key)
		if want, there := m.get(key); got != want || is != there {
			t.Fatalf("Get(%q) = %v, %t, want %v, %t", key, got, is, want, there)
		}
	}
	for _, prefix := range []string{"", "a", "a/", "a/b", "b", "zz", "x", "\xff"} {
		if got, want := w.Under(prefix), m.under(prefix); !slices.Equal(got, want) {
			t.Fatalf("Under(%q) = %v, want %v", prefix, got, want)
		}
	}
}

// putBoth puts into both, which must answer the same.
func putBoth(t *testing.T, w *table.Table[int], m *told, key string, v int, index uint64) (row, api.Errno) {
	t.Helper()
	old := m.list()
	got, err := w.Put(key, v, index)
	if want, fault := m.put(key, v, index); got != want || err != fault {
		t.Fatalf("Put(%q, %d, %d) = %v, %d, want %v, %d, of %v", key, v, index, got, err, want, fault, old)
	}
	agree(t, w, m)
	return got, err
}

// dropBoth drops from both, which must answer the same.
func dropBoth(t *testing.T, w *table.Table[int], m *told, key string, index uint64) bool {
	t.Helper()
	old := m.list()
	got := w.Drop(key, index)
	if want := m.drop(key, index); got != want {
		t.Fatalf("Drop(%q, %d) = %t, want %t, of %v", key, index, got, want, old)
	}
	agree(t, w, m)
	return got
}

// raiseBoth raises both.
func raiseBoth(t *testing.T, w *table.Table[int], m *told, index uint64) {
	t.Helper()
	w.Raise(index)
	m.given(index)
	agree(t, w, m)
}

// step does anything to both.
func (c *chance) step(t *testing.T, w *table.Table[int], m *told) {
	t.Helper()
	switch c.below(8) {
	case 0:
		raiseBoth(t, w, m, c.index())
	case 1, 2:
		dropBoth(t, w, m, c.key(), c.index())
	default:
		putBoth(t, w, m, c.key(), c.below(9), c.index())
	}
}

// filled is both with a row of each key of a list, in its order.
func filled(t *testing.T, l []string) (*table.Table[int], *told) {
	t.Helper()
	w, m := both(t, mostRows)
	for i, key := range l {
		putBoth(t, w, m, key, 100+i, uint64(i+1))
	}
	return w, m
}

// The chapter's examples.
func TestExamples(t *testing.T) {
	w := table.New[int](2)
	for _, x := range []struct {
		key   string
		v     int
		index uint64
		want  row
		err   api.Errno
	}{
		{"b", 7, 3, row{Key: "b", Value: 7, Make: 3, Index: 3}, api.OK},
		{"a", 1, 4, row{Key: "a", Value: 1, Make: 4, Index: 4}, api.OK},
		{"b", 8, 5, row{Key: "b", Value: 8, Make: 3, Index: 5}, api.OK},
		{"c", 1, 6, row{}, errFull},
	} {
		if got, err := w.Put(x.key, x.v, x.index); got != x.want || err != x.err {
			t.Errorf("Put(%q, %d, %d) = %v, %d, want %v, %d", x.key, x.v, x.index, got, err, x.want, x.err)
		}
	}
	if l := bare(w.List()); !slices.Equal(l, []row{{Key: "a", Value: 1}, {Key: "b", Value: 8}}) {
		t.Errorf("List = %v", l)
	}
	if !w.Drop("b", 9) || w.Last() != 9 {
		t.Errorf("Last behind Drop = %d", w.Last())
	}
	w.Raise(2)
	if w.Last() != 9 {
		t.Errorf("Last behind Raise(2) = %d", w.Last())
	}
}

// P15.1: a new table is empty, and lets in as many rows as it was told, but one at least and 64 at most.
func TestP151New(t *testing.T) {
	for _, most := range ints() {
		w, m := both(t, most)
		agree(t, w, m)
		for i := range mostRows + 6 {
			_, err := w.Put(strconv.Itoa(i), i, uint64(i))
			if want := i >= m.most; err != api.OK != want || want && err != errFull {
				t.Fatalf("Put of row %d into a New(%d): error %d", i, most, err)
			}
		}
		if w.Count() != m.most || len(w.List()) != m.most || w.Last() != uint64(m.most-1) {
			t.Fatalf("New(%d) has %d rows, and the last index %d", most, w.Count(), w.Last())
		}
	}
}

// P15.2: Put of a new key and of one that is there, with each two indexes, also falling ones and 0.
func TestP152Put(t *testing.T) {
	for _, first := range indexes() {
		for _, then := range indexes() {
			w, m := both(t, 3)
			got, err := putBoth(t, w, m, "k", 5, first)
			if want := (row{"k", 5, first, first}); got != want || err != api.OK {
				t.Fatalf("Put at %d = %v, %d", first, got, err)
			}
			got, err = putBoth(t, w, m, "k", 6, then)
			if want := (row{"k", 6, first, then}); got != want || err != api.OK {
				t.Fatalf("Put at %d behind one at %d = %v, %d", then, first, got, err)
			}
			if w.Count() != 1 || w.Last() != max(first, then) {
				t.Fatalf("Count %d, Last %d", w.Count(), w.Last())
			}
		}
	}
}

// P15.2: Put of a value that the row has already turns its Index all the same.
func TestP152Same(t *testing.T) {
	w, m := both(t, 3)
	for index := range uint64(5) {
		got, _ := putBoth(t, w, m, "k", 0, index)
		if want := (row{"k", 0, 0, index}); got != want {
			t.Fatalf("Put at %d = %v, want %v", index, got, want)
		}
	}
}

// P15.2: any text is a key, and no two of them meet.
func TestP152Keys(t *testing.T) {
	w, m := filled(t, keys())
	if w.Count() != len(keys()) {
		t.Fatalf("Count = %d of %d keys", w.Count(), len(keys()))
	}
	for i, key := range keys() {
		if r, is := w.Get(key); !is || r.Key != key || r.Value != 100+i {
			t.Errorf("Get(%q) = %v, %t", key, r, is)
		}
	}
	for i, key := range keys() {
		putBoth(t, w, m, key, i, uint64(1000-i))
	}
	for _, key := range keys() {
		if !dropBoth(t, w, m, key, 7) || dropBoth(t, w, m, key, 2000) {
			t.Errorf("Drop(%q)", key)
		}
	}
}

// P15.2: into a full table no new key comes, and the refused one leaves no trace; rows that are there can be put, and a dropped one makes room.
func TestP152Full(t *testing.T) {
	for most := 1; most <= mostRows; most++ {
		w, m := both(t, most)
		for i := range most {
			putBoth(t, w, m, strconv.Itoa(i), i, 10)
		}
		for _, key := range []string{"", "00", "5x", "x", "\xff"} {
			for _, index := range []uint64{0, 10, 11, greatest} {
				if r, err := putBoth(t, w, m, key, 1, index); r != (row{}) || err != errFull {
					t.Fatalf("Put(%q) into %d rows of %d = %v, %d", key, most, most, r, err)
				}
			}
		}
		if w.Last() != 10 {
			t.Fatalf("Last behind refused rows = %d", w.Last())
		}
		if r, err := putBoth(t, w, m, strconv.Itoa(most-1), 99, 12); err != api.OK || r.Make != 10 || r.Index != 12 {
			t.Fatalf("Put of a row that is there = %v, %d", r, err)
		}
		dropBoth(t, w, m, strconv.Itoa(most/2), 13)
		if r, err := putBoth(t, w, m, "x", 1, 11); err != api.OK || r.Make != 11 {
			t.Fatalf("Put behind Drop = %v, %d", r, err)
		}
		if _, err := putBoth(t, w, m, "y", 1, 14); err != errFull {
			t.Fatalf("Put into a table that is full again: error %d", err)
		}
	}
}

// P15.2: Drop takes just that row away, at each place; a second time, and for a key beside it, it does nothing.
func TestP152Drop(t *testing.T) {
	l := []string{"b", "d", "f", "h", "j"}
	for _, gone := range l {
		w, m := filled(t, l)
		for _, key := range []string{"", "a", "c", "e", "g", "i", "k", gone + "\x00", strings.ToUpper(gone)} {
			if dropBoth(t, w, m, key, 70) {
				t.Fatalf("Drop(%q) = true", key)
			}
		}
		if !dropBoth(t, w, m, gone, 3) || dropBoth(t, w, m, gone, 80) || w.Count() != 4 || w.Last() != 5 {
			t.Fatalf("Drop(%q): %v, Last %d", gone, w.List(), w.Last())
		}
	}
}

// P15.2: a row that was dropped begins anew.
func TestP152Anew(t *testing.T) {
	w, m := both(t, 1)
	for i := range uint64(20) {
		if r, err := putBoth(t, w, m, "k", int(i), 3*i); err != api.OK || r.Make != 3*i {
			t.Fatalf("Put = %v, %d", r, err)
		}
		if r, _ := putBoth(t, w, m, "k", 50, 3*i+1); r.Make != 3*i {
			t.Fatalf("Put = %v", r)
		}
		if !dropBoth(t, w, m, "k", 3*i+2) || w.Count() != 0 {
			t.Fatalf("Drop left %v", w.List())
		}
	}
}

// P15.3: the rows are in the byte order of their keys, in whatever order they were put.
func TestP153Order(t *testing.T) {
	c := chance(1)
	for range 60 {
		l := keys()
		for i := range l {
			k := i + c.below(len(l)-i)
			l[i], l[k] = l[k], l[i]
		}
		w, _ := filled(t, l)
		rows := w.List()
		for i := 1; i < len(rows); i++ {
			if !before(rows[i-1].Key, rows[i].Key) {
				t.Fatalf("List has %q ahead of %q", rows[i-1].Key, rows[i].Key)
			}
		}
	}
}

// P15.3: Get of keys that are there, and of those around them.
func TestP153Get(t *testing.T) {
	w, _ := filled(t, []string{"b", "d/e", "f"})
	if r, is := w.Get("d/e"); !is || r != (row{"d/e", 101, 2, 2}) {
		t.Errorf("Get = %v, %t", r, is)
	}
	for _, key := range []string{"", "a", "b\x00", "b/", "B", "c", "d", "d/", "d/e/", "e", "g", "bdf"} {
		if r, is := w.Get(key); is || r != (row{}) {
			t.Errorf("Get(%q) = %v, %t", key, r, is)
		}
	}
}

// P15.3: Under takes whole parts of keys, and the empty prefix takes all.
func TestP153Under(t *testing.T) {
	w, m := filled(t, keys())
	prefixes := append(keys(), "a/b/", "a/b/c/", "x", "b/", "aaa", "/a/", "a/bcd", strings.Repeat("a/", 499), strings.Repeat("a/", 501))
	for _, prefix := range prefixes {
		if got, want := w.Under(prefix), m.under(prefix); !slices.Equal(got, want) {
			t.Errorf("Under(%q) = %v, want %v", prefix, got, want)
		}
	}
	w, _ = filled(t, []string{"a", "ab", "a/b", "a/bc", "a/b/c", "b", "a-"})
	for _, x := range []struct {
		prefix string
		want   []string
	}{
		{"", []string{"a", "a-", "a/b", "a/b/c", "a/bc", "ab", "b"}},
		{"a", []string{"a", "a/b", "a/b/c", "a/bc"}},
		{"a/", []string{"a/b", "a/b/c", "a/bc"}},
		{"a/b", []string{"a/b", "a/b/c"}},
		{"a/b/", []string{"a/b/c"}},
		{"b", []string{"b"}},
		{"c", nil},
	} {
		var got []string
		for _, r := range w.Under(x.prefix) {
			got = append(got, r.Key)
		}
		if !slices.Equal(got, x.want) {
			t.Errorf("Under(%q) = %q, want %q", x.prefix, got, x.want)
		}
	}
}

// P15.3: Each goes over what there was when it was called, whatever is done behind it, and as often as it is gone over.
func TestP153EachAtTheCall(t *testing.T) {
	c := chance(2)
	for range 40 {
		w, m := both(t, 20)
		for range 30 {
			c.step(t, w, m)
		}
		each, want := w.Each(), bare(m.list())
		for range 4 {
			var got []row
			for key, v := range each {
				got = append(got, row{Key: key, Value: v})
			}
			if !slices.Equal(got, want) {
				t.Fatalf("Each = %v, want %v as of the call", got, want)
			}
			for range 6 {
				c.step(t, w, m)
			}
		}
	}
}

// P15.3: what is done while Each goes over the rows does not count there.
func TestP153EachMeanwhile(t *testing.T) {
	c := chance(3)
	for range 40 {
		w, m := both(t, 20)
		for range 30 {
			c.step(t, w, m)
		}
		var got []row
		want := bare(m.list())
		for key, v := range w.Each() {
			got = append(got, row{Key: key, Value: v})
			dropBoth(t, w, m, c.key(), c.index())
			putBoth(t, w, m, c.key(), c.below(9), c.index())
			putBoth(t, w, m, key+"\x00", 1, 1)
		}
		if !slices.Equal(got, want) {
			t.Fatalf("Each = %v, want %v as of the call", got, want)
		}
	}
}

// P15.3: Each ends where it is left, and one may go over the rows within another one.
func TestP153EachLeft(t *testing.T) {
	w, m := filled(t, []string{"d", "b", "c", "a"})
	for most := 1; most <= 4; most++ {
		calls := 0
		w.Each()(func(key string, v int) bool {
			if want := m.list()[calls]; key != want.Key || v != want.Value {
				t.Errorf("row %d is %q, %d, want %v", calls, key, v, want)
			}
			calls++
			return calls < most
		})
		if calls != most {
			t.Errorf("Each went over %d rows, and was left at %d", calls, most)
		}
	}
	var got []string
	for a := range w.Each() {
		for b := range w.Each() {
			got = append(got, a+b)
		}
	}
	if len(got) != 16 || got[1] != "ab" || got[4] != "ba" || !slices.IsSorted(got) {
		t.Errorf("Each within Each = %q", got)
	}
}

// P15.3: asking changes nothing.
func TestP153Asking(t *testing.T) {
	c := chance(4)
	w, m := both(t, 30)
	for range 200 {
		for _, key := range keys() {
			w.Get(key)
			w.Under(key)
		}
		w.List()
		w.Each()
		w.Count()
		w.Last()
		w.Copy()
		c.step(t, w, m)
	}
}

// P15.4: the last index is the greatest that the table was given by a Put, a Drop that returned true, or Raise.
func TestP154Last(t *testing.T) {
	for _, first := range indexes() {
		for _, then := range indexes() {
			most := max(first, then)
			w, m := both(t, 2)
			raiseBoth(t, w, m, first)
			if w.Last() != first {
				t.Fatalf("Last behind Raise(%d) = %d", first, w.Last())
			}
			raiseBoth(t, w, m, then)
			if w.Last() != most || w.Count() != 0 {
				t.Fatalf("Last behind Raise(%d), Raise(%d) = %d", first, then, w.Last())
			}
			w, m = both(t, 2)
			putBoth(t, w, m, "k", 1, first)
			if dropBoth(t, w, m, "l", then); w.Last() != first {
				t.Fatalf("Last behind a Drop of nothing at %d = %d, want %d", then, w.Last(), first)
			}
			if dropBoth(t, w, m, "k", then); w.Last() != most {
				t.Fatalf("Last behind a Drop at %d = %d, want %d", then, w.Last(), most)
			}
		}
	}
}

// P15.4: Raise leaves every row as it is.
func TestP154Raise(t *testing.T) {
	w, m := filled(t, []string{"c", "a", "b"})
	rows := w.List()
	for _, index := range indexes() {
		raiseBoth(t, w, m, index)
		if !slices.Equal(w.List(), rows) {
			t.Fatalf("List behind Raise(%d) = %v", index, w.List())
		}
	}
}

// P15.4: a copy has all that the table has, its capacity too, and each goes on by itself.
func TestP154Copy(t *testing.T) {
	c := chance(5)
	for range 60 {
		w, m := both(t, 1+c.below(30))
		for range c.below(60) {
			c.step(t, w, m)
		}
		other := w.Copy()
		k := &told{m.most, m.last, slices.Clone(m.rows)}
		agree(t, other, k)
		for range 40 {
			c.step(t, w, m)
			agree(t, other, k)
			c.step(t, other, k)
			agree(t, w, m)
		}
	}
}

// P15.4: a copy of a full table is full, and one of an empty table is empty and can be used.
func TestP154CopyBounds(t *testing.T) {
	for _, most := range []int{1, 2, mostRows} {
		w, m := both(t, most)
		empty := w.Copy()
		for i := range most {
			putBoth(t, w, m, strconv.Itoa(i), i, 1)
		}
		if _, err := w.Copy().Put("x", 1, 2); err != errFull {
			t.Errorf("Put into a copy of a full table: error %d", err)
		}
		k := &told{most: most}
		agree(t, empty, k)
		for i := range most + 1 {
			putBoth(t, empty, k, strconv.Itoa(i), i, 1)
		}
		agree(t, w, m)
	}
}

// nothing fails where a table that is not there, or that New did not make, does something.
func nothing[V comparable](t *testing.T, w *table.Table[V], v V) {
	t.Helper()
	for range 2 {
		for _, index := range indexes() {
			if r, err := w.Put("k", v, index); r != (table.Row[V]{}) || err != errNil {
				t.Errorf("Put = %v, %d", r, err)
			}
			if w.Raise(index); w.Drop("k", index) || w.Last() != 0 {
				t.Errorf("Drop = true, or Last = %d", w.Last())
			}
		}
		for _, key := range keys() {
			if r, is := w.Get(key); r != (table.Row[V]{}) || is {
				t.Errorf("Get(%q) = %v, %t", key, r, is)
			}
			if l := w.Under(key); len(l) != 0 {
				t.Errorf("Under(%q) = %v", key, l)
			}
		}
		for key, v := range w.Each() {
			t.Errorf("Each has %q, %v", key, v)
		}
		if len(w.List()) != 0 || w.Count() != 0 || w.Copy() != nil {
			t.Errorf("List %v, Count %d, Copy %v", w.List(), w.Count(), w.Copy())
		}
	}
}

// P15.5: a table that is not there, or that New did not make, has ErrNil for Put, and does nothing else.
func TestP155NoTable(t *testing.T) {
	for _, w := range []*table.Table[int]{nil, {}, new(table.Table[int])} {
		nothing(t, w, 7)
	}
	for _, w := range []*table.Table[string]{nil, {}, new(table.Table[string])} {
		nothing(t, w, "v")
	}
	for _, w := range []*table.Table[struct{}]{nil, {}, new(table.Table[struct{}])} {
		nothing(t, w, struct{}{})
	}
	for _, w := range []*table.Table[api.Update]{nil, {}, new(table.Table[api.Update])} {
		nothing(t, w, api.Update{Node: 1})
	}
}

// P15.6: where indexes ascend, no Make is above its Index, and the indexes of the rows are those of their last Put.
func TestP156Ascending(t *testing.T) {
	c := chance(6)
	for range 60 {
		w, m := both(t, 1+c.below(mostRows))
		index := uint64(0)
		for range 80 {
			index += uint64(c.below(3))
			switch c.below(5) {
			case 0:
				dropBoth(t, w, m, c.key(), index)
			case 1:
				raiseBoth(t, w, m, index)
			default:
				putBoth(t, w, m, c.key(), c.below(9), index)
			}
			for _, r := range w.List() {
				if r.Make > r.Index || r.Index > w.Last() {
					t.Fatalf("row %v, and the last index %d", r, w.Last())
				}
			}
		}
	}
}

// P15.6: whatever the indexes, none of a row is above the last one.
func TestP156Any(t *testing.T) {
	c := chance(7)
	for range 60 {
		w, m := both(t, 1+c.below(mostRows))
		for range 80 {
			c.step(t, w, m)
			for _, r := range w.List() {
				if r.Index > w.Last() || r.Make > w.Last() {
					t.Fatalf("row %v, and the last index %d", r, w.Last())
				}
			}
		}
	}
}

// P15.2 to P15.4: through any calls a table does as the chapter's words have it.
func TestAny(t *testing.T) {
	c := chance(8)
	for range 150 {
		w, m := both(t, c.below(mostRows+3)-1)
		for range 120 {
			c.step(t, w, m)
		}
	}
}

// Values of other types go through a table as they are.
func TestTypes(t *testing.T) {
	texts := table.New[string](2)
	texts.Put("a", "x\x00\xff", 1)
	if r, is := texts.Get("a"); !is || r.Value != "x\x00\xff" {
		t.Errorf("Get = %v, %t", r, is)
	}
	whole := api.Update{Node: 3, Inc: 4, Status: 1}
	updates := table.New[api.Update](2)
	updates.Put("a", whole, 1)
	if l := updates.List(); len(l) != 1 || l[0].Value != whole {
		t.Errorf("List = %v", l)
	}
	marks := table.New[struct{}](1)
	if r, err := marks.Put("a", struct{}{}, 2); err != api.OK || r.Key != "a" || marks.Count() != 1 {
		t.Errorf("Put = %v, %d", r, err)
	}
	if _, err := marks.Put("b", struct{}{}, 2); err != errFull {
		t.Errorf("Put into a full table: error %d", err)
	}
	services := table.New[api.Service](3)
	services.Put("1/web", api.Service{Node: 1, Tags: []string{"a", "b"}}, 5)
	for key, s := range services.Each() {
		if key != "1/web" || s.Node != 1 || !slices.Equal(s.Tags, []string{"a", "b"}) {
			t.Errorf("Each has %q, %v", key, s)
		}
	}
	lists := table.New[[]int](3)
	lists.Put("nil", nil, 1)
	if r, is := lists.Get("nil"); !is || r.Value != nil || r.Index != 1 {
		t.Errorf("Get = %v, %t", r, is)
	}
	acts := table.New[func() int](1)
	acts.Put("f", func() int { return 9 }, 1)
	if r, _ := acts.Get("f"); r.Value() != 9 {
		t.Error("a function became another one")
	}
}

// R3: what List and Under answer shares no memory with the table, nor with another answer.
func TestResults(t *testing.T) {
	w, m := filled(t, []string{"c", "a", "a/b", "b", "a/c"})
	for range 3 {
		list, under := w.List(), w.Under("a")
		for _, l := range [][]row{w.List(), w.Under(""), w.Under("a"), w.Copy().List()} {
			for l := l[:cap(l)]; len(l) > 0; l = l[1:] {
				l[0] = row{"q", -5, 9, 9}
			}
		}
		if !slices.Equal(list, m.list()) || !slices.Equal(under, m.under("a")) {
			t.Fatalf("answers were changed by way of others: %v, %v", list, under)
		}
		agree(t, w, m)
	}
}

// R3: an answer stays as it is, whatever is done later.
func TestKept(t *testing.T) {
	w, m := filled(t, []string{"c", "a", "a/b", "b"})
	list, under := w.List(), w.Under("a")
	wantList, wantUnder := m.list(), m.under("a")
	c := chance(9)
	for range 200 {
		c.step(t, w, m)
		if !slices.Equal(list, wantList) || !slices.Equal(under, wantUnder) {
			t.Fatalf("answers were changed: %v, %v", list, under)
		}
	}
}

// R4: two tables share nothing.
func TestTwo(t *testing.T) {
	c := chance(10)
	one, m := both(t, 9)
	two, k := both(t, 9)
	for range 200 {
		c.step(t, one, m)
		agree(t, two, k)
		c.step(t, two, k)
		agree(t, one, m)
	}
}
