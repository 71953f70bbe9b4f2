package field_test

import (
	"bytes"
	"fmt"
	"math"
	"math/big"
	"slices"
	"strings"
	"testing"

	"sodality/api"
	"sodality/field"
)

// number is a number by the words of the definition.
func number(n uint64) []byte {
	digits := new(big.Int).SetUint64(n).Bytes()
	return append([]byte{byte(len(digits))}, digits...)
}

// words is a string by the words of the definition.
func words(s string) []byte {
	return append(number(uint64(len(s))), s...)
}

// strs is a list of strings by the words of the definition.
func strs(l ...string) []byte {
	b := number(uint64(len(l)))
	for _, s := range l {
		b = append(b, words(s)...)
	}
	return b
}

// numbers is a list of numbers by the words of the definition.
func numbers(l ...uint64) []byte {
	b := number(uint64(len(l)))
	for _, n := range l {
		b = append(b, number(n)...)
	}
	return b
}

// random is n bytes that follow from a seed.
func random(n int, seed uint32) []byte {
	b := make([]byte, n)
	for i := range b {
		seed = seed*1664525 + 1013904223
		b[i] = byte(seed >> 24)
	}
	return b
}

// edges is numbers of all lengths, those around each power of two among them.
func edges() []uint64 {
	l := []uint64{0, 1, 2, 3, 300, 1000, math.MaxUint64}
	for i := range 64 {
		n := uint64(1) << i
		l = append(l, n-1, n, n+1, n*3, ^n)
	}
	return l
}

// someTexts is strings of some lengths, with bytes of all kinds.
func someTexts() []string {
	l := []string{"", "a", "ab", "\x00", "\x00\x00\x05", "\xff\xfe", "web-1", "ä\xc3"}
	for _, n := range []int{7, 8, 9, 127, 128, 255, 256, 257, 1000, 65535, 65536, 70000} {
		l = append(l, string(random(n, uint32(n))))
	}
	return l
}

// befores is what items are laid behind.
func befores() [][]byte {
	return [][]byte{nil, {}, {0}, {9, 0, 255}, number(300), random(2000, 3)}
}

// reader is what the Reader of the package and that of the test have in common.
type reader interface {
	Num(most uint64) uint64
	Text(most int) string
	Flag() bool
	Texts(many, most int) []string
	Nums(many int, most uint64) []uint64
	Left() int
	Wrong() api.Errno
	Done() api.Errno
}

// told is a Reader by the words of P4.2 and P4.3.
type told struct {
	b     []byte
	at    int
	wrong api.Errno
}

// err tells an error of the item that starts at a place.
func (m *told) err(start int, err api.Errno) {
	m.at, m.wrong = start, err
}

// any reads a number without a maximum, as a part of an item that starts at a place.
func (m *told) any(start int) uint64 {
	rest := m.b[m.at:]
	switch {
	case len(rest) == 0:
		m.err(start, api.ErrEnd)
	case rest[0] > 8:
		m.err(start, api.ErrForm)
	case rest[0] > 0 && len(rest) > 1 && rest[1] == 0:
		m.err(start, api.ErrForm)
	case len(rest)-1 < int(rest[0]):
		m.err(start, api.ErrEnd)
	default:
		end := 1 + int(rest[0])
		m.at += end
		return new(big.Int).SetBytes(rest[1:end]).Uint64()
	}
	return 0
}

func (m *told) Num(most uint64) uint64 {
	if m.wrong != api.OK {
		return 0
	}
	start := m.at
	n := m.any(start)
	if m.wrong == api.OK && n > most {
		m.err(start, api.ErrLong)
		return 0
	}
	return n
}

func (m *told) Text(most int) string {
	if m.wrong != api.OK {
		return ""
	}
	start := m.at
	n := m.any(start)
	if m.wrong != api.OK {
		return ""
	}
	long := new(big.Int).SetUint64(n)
	if long.Sign() > 0 && long.Cmp(big.NewInt(int64(most))) > 0 {
		m.err(start, api.ErrLong)
		return ""
	}
	if long.Cmp(big.NewInt(int64(len(m.b)-m.at))) > 0 {
		m.err(start, api.ErrEnd)
		return ""
	}
	s := string(m.b[m.at : m.at+int(n)])
	m.at += int(n)
	return s
}

func (m *told) Flag() bool {
	if m.wrong != api.OK {
		return false
	}
	start := m.at
	n := m.any(start)
	if m.wrong == api.OK && n > 1 {
		m.err(start, api.ErrForm)
	}
	return m.wrong == api.OK && n == 1
}

// count reads the number of elements of a list.
func (m *told) count(many int) uint64 {
	if many < 0 {
		many = 0
	}
	return m.Num(uint64(many))
}

func (m *told) Texts(many, most int) []string {
	var l []string
	for n := m.count(many); m.wrong == api.OK && uint64(len(l)) < n; {
		l = append(l, m.Text(most))
	}
	if m.wrong != api.OK {
		return nil
	}
	return l
}

func (m *told) Nums(many int, most uint64) []uint64 {
	var l []uint64
	for n := m.count(many); m.wrong == api.OK && uint64(len(l)) < n; {
		l = append(l, m.Num(most))
	}
	if m.wrong != api.OK {
		return nil
	}
	return l
}

func (m *told) Left() int        { return len(m.b) - m.at }
func (m *told) Wrong() api.Errno { return m.wrong }

func (m *told) Done() api.Errno {
	if m.wrong == api.OK && m.at < len(m.b) {
		return api.ErrRest
	}
	return m.wrong
}

// call is a reading call, its words, and how what it has read is laid again.
type call struct {
	words string
	read  func(r reader) any
	lay   func(b []byte, x any) []byte
}

func callNum(most uint64) call {
	return call{fmt.Sprintf("Num(%d)", most), func(r reader) any { return r.Num(most) },
		func(b []byte, x any) []byte { return field.Num(b, x.(uint64)) }}
}

func callText(most int) call {
	return call{fmt.Sprintf("Text(%d)", most), func(r reader) any { return r.Text(most) },
		func(b []byte, x any) []byte { return field.Text(b, x.(string)) }}
}

func callFlag() call {
	return call{"Flag()", func(r reader) any { return r.Flag() },
		func(b []byte, x any) []byte { return field.Flag(b, x.(bool)) }}
}

func callTexts(many, most int) call {
	return call{fmt.Sprintf("Texts(%d, %d)", many, most), func(r reader) any { return r.Texts(many, most) },
		func(b []byte, x any) []byte { return field.Texts(b, x.([]string)) }}
}

func callNums(many int, most uint64) call {
	return call{fmt.Sprintf("Nums(%d, %d)", many, most), func(r reader) any { return r.Nums(many, most) },
		func(b []byte, x any) []byte { return field.Nums(b, x.([]uint64)) }}
}

// calls is reading calls with bounds of all kinds.
func calls() []call {
	l := []call{callFlag()}
	for _, n := range []uint64{0, 1, 2, 254, 255, 256, math.MaxUint64} {
		l = append(l, callNum(n))
	}
	for _, n := range []int{math.MinInt, -1, 0, 1, 2, 3, math.MaxInt} {
		l = append(l, callText(n), callTexts(n, 2), callTexts(2, n), callTexts(math.MaxInt, n), callNums(n, 2), callNums(n, math.MaxUint64))
	}
	return append(l, callNums(2, 0), callNums(3, 255))
}

// shown is a value as text; no elements are no elements, nil or not.
func shown(x any) string {
	switch x.(type) {
	case string, []string:
		return fmt.Sprintf("%T %q", x, x)
	}
	return fmt.Sprintf("%T %v", x, x)
}

// empty asks whether a value is 0, false, the empty string or no elements.
func empty(x any) bool {
	switch v := x.(type) {
	case uint64:
		return v == 0
	case string:
		return v == ""
	case bool:
		return !v
	case []string:
		return len(v) == 0
	case []uint64:
		return len(v) == 0
	}
	return false
}

// agree tells where two readers differ after the same call; empty if they don't.
func agree(got, want reader, c call) string {
	x, y := c.read(got), c.read(want)
	a := fmt.Sprintf("%s, Wrong %d, Left %d, Done %d", shown(x), got.Wrong(), got.Left(), got.Done())
	b := fmt.Sprintf("%s, Wrong %d, Left %d, Done %d", shown(y), want.Wrong(), want.Left(), want.Done())
	if a == b {
		return ""
	}
	return fmt.Sprintf("%s = %s; want %s", c.words, a, b)
}

// The chapter's examples.
func TestExamples(t *testing.T) {
	for _, c := range []struct {
		got, want []byte
	}{
		{field.Num(nil, 0), []byte{0}}, {field.Num(nil, 300), []byte{2, 1, 0x2c}},
		{field.Text(nil, "ab"), []byte{1, 2, 0x61, 0x62}}, {field.Texts(nil, []string{"a"}), []byte{1, 1, 1, 1, 0x61}},
	} {
		if !bytes.Equal(c.got, c.want) {
			t.Errorf("% x, want % x", c.got, c.want)
		}
	}
	r := field.Read([]byte{2, 0, 5})
	if n := r.Num(9); n != 0 || r.Wrong() != api.ErrForm {
		t.Errorf("Read(02 00 05).Num(9) = %d, then Wrong %d", n, r.Wrong())
	}
	r = field.Read([]byte{1, 7})
	if n := r.Num(5); n != 0 || r.Wrong() != api.ErrLong {
		t.Errorf("Read(01 07).Num(5) = %d, then Wrong %d", n, r.Wrong())
	}
	r = field.Read([]byte{0, 1})
	if n := r.Num(5); n != 0 || r.Wrong() != api.OK || r.Done() != api.ErrRest {
		t.Errorf("Read(00 01).Num(5) = %d, then Wrong %d, Done %d", n, r.Wrong(), r.Done())
	}
}

// P4.1: numbers, flags and strings are laid behind any bytes, in the form that is defined.
func TestP41Items(t *testing.T) {
	for _, before := range befores() {
		for _, n := range edges() {
			if got := field.Num(before, n); !bytes.Equal(got, slices.Concat(before, number(n))) {
				t.Errorf("Num(%d bytes, %d): % x", len(before), n, got)
			}
		}
		for _, s := range someTexts() {
			if got := field.Text(before, s); !bytes.Equal(got, slices.Concat(before, words(s))) {
				t.Errorf("Text(%d bytes, %d bytes): %d bytes", len(before), len(s), len(got))
			}
		}
		if got := field.Flag(before, true); !bytes.Equal(got, slices.Concat(before, []byte{1, 1})) {
			t.Errorf("Flag(%d bytes, true): % x", len(before), got)
		}
		if got := field.Flag(before, false); !bytes.Equal(got, slices.Concat(before, []byte{0})) {
			t.Errorf("Flag(%d bytes, false): % x", len(before), got)
		}
	}
	for n := range uint64(70000) {
		if got := field.Num(nil, n); !bytes.Equal(got, number(n)) {
			t.Fatalf("Num(%d): % x", n, got)
		}
	}
}

// P4.1: lists are laid behind any bytes, in their order, the same element as often as it is there.
func TestP41Lists(t *testing.T) {
	for _, before := range befores() {
		for _, l := range [][]string{nil, {}, {""}, {"b", "a", "b"}, {"", "", ""}, someTexts(), make([]string, 255), make([]string, 256), make([]string, 70000)} {
			if got := field.Texts(before, l); !bytes.Equal(got, slices.Concat(before, strs(l...))) {
				t.Errorf("Texts(%d bytes, %d strings): %d bytes", len(before), len(l), len(got))
			}
		}
		for _, l := range [][]uint64{nil, {}, {0}, {2, 1, 2}, {0, 0, 0}, edges(), make([]uint64, 255), make([]uint64, 256), make([]uint64, 70000)} {
			if got := field.Nums(before, l); !bytes.Equal(got, slices.Concat(before, numbers(l...))) {
				t.Errorf("Nums(%d bytes, %d numbers): %d bytes", len(before), len(l), len(got))
			}
		}
	}
}

// P4.2: what is laid is read, up to the greatest that may be, whatever comes behind.
func TestP42Read(t *testing.T) {
	for _, behind := range [][]byte{nil, {0}, {9}, {255, 0}, random(100, 5)} {
		for _, n := range edges() {
			for _, most := range []uint64{n, max(n, 1000), math.MaxUint64} {
				r := field.Read(append(number(n), behind...))
				if got := r.Num(most); got != n || r.Wrong() != api.OK || r.Left() != len(behind) {
					t.Errorf("Num(%d) of %d: %d, %d, %d left", most, n, got, r.Wrong(), r.Left())
				}
			}
		}
		for _, s := range someTexts() {
			for _, most := range []int{len(s), len(s) + 1, math.MaxInt} {
				r := field.Read(append(words(s), behind...))
				if got := r.Text(most); got != s || r.Wrong() != api.OK || r.Left() != len(behind) {
					t.Errorf("Text(%d) of %d bytes: %d bytes, %d, %d left", most, len(s), len(got), r.Wrong(), r.Left())
				}
			}
		}
		for is, b := range map[bool][]byte{false: {0}, true: {1, 1}} {
			r := field.Read(append(b, behind...))
			if got := r.Flag(); got != is || r.Wrong() != api.OK || r.Left() != len(behind) {
				t.Errorf("Flag of % x: %t, %d, %d left", b, got, r.Wrong(), r.Left())
			}
		}
	}
}

// P4.2: lists are read, up to as many elements and as great ones as may be.
func TestP42Lists(t *testing.T) {
	for _, behind := range [][]byte{nil, {0}, {9}, random(100, 5)} {
		for _, l := range [][]string{nil, {""}, {"b", "a", "b"}, someTexts(), make([]string, 256), make([]string, 70000)} {
			for _, more := range []int{0, 1, math.MaxInt - 70000} {
				r := field.Read(append(strs(l...), behind...))
				if got := r.Texts(len(l)+more, 70000); !slices.Equal(got, l) || r.Wrong() != api.OK || r.Left() != len(behind) {
					t.Errorf("Texts of %d: %d, %d, %d left", len(l), len(got), r.Wrong(), r.Left())
				}
			}
		}
		for _, l := range [][]uint64{nil, {0}, {2, 1, 2}, edges(), make([]uint64, 256), make([]uint64, 70000)} {
			for _, more := range []int{0, 1, math.MaxInt - 70000} {
				r := field.Read(append(numbers(l...), behind...))
				if got := r.Nums(len(l)+more, math.MaxUint64); !slices.Equal(got, l) || r.Wrong() != api.OK || r.Left() != len(behind) {
					t.Errorf("Nums of %d: %d, %d, %d left", len(l), len(got), r.Wrong(), r.Left())
				}
			}
		}
	}
}

// fault is bytes, a call, the error that it finds there, and how many bytes are left then.
type fault struct {
	b    []byte
	c    call
	want api.Errno
	left int
}

// check runs the call of each fault: its error is the first one, and nothing comes with it, then or later.
func check(t *testing.T, faults []fault) {
	t.Helper()
	for _, f := range faults {
		r := field.Read(f.b)
		if x := f.c.read(r); !empty(x) || r.Wrong() != f.want || r.Left() != f.left || r.Done() != f.want {
			t.Errorf("%s of % x: %s, Wrong %d, Left %d, Done %d; want Wrong %d, Left %d", f.c.words, f.b[:min(len(f.b), 20)], shown(x), r.Wrong(), r.Left(), r.Done(), f.want, f.left)
		}
		for _, c := range calls() {
			if x := c.read(r); !empty(x) || r.Wrong() != f.want || r.Left() != f.left || r.Done() != f.want {
				t.Errorf("%s after error %d: %s, Wrong %d, Left %d, Done %d", c.words, f.want, shown(x), r.Wrong(), r.Left(), r.Done())
			}
		}
	}
}

// P4.2: the errors of a number, in the chapter's order.
func TestP42NumErrors(t *testing.T) {
	const all = math.MaxUint64
	var faults []fault
	for _, c := range []struct {
		b    []byte
		most uint64
		want api.Errno
	}{
		{nil, all, api.ErrEnd}, {nil, 0, api.ErrEnd},
		{[]byte{9}, all, api.ErrForm}, {[]byte{255}, 0, api.ErrForm}, {[]byte{9, 1, 2, 3, 4, 5, 6, 7, 8, 9}, all, api.ErrForm}, {[]byte{9, 0}, all, api.ErrForm},
		{[]byte{1, 0}, all, api.ErrForm}, {[]byte{1, 0}, 0, api.ErrForm}, {[]byte{2, 0, 5}, 9, api.ErrForm}, {[]byte{8, 0, 1, 1, 1, 1, 1, 1, 1}, all, api.ErrForm},
		{[]byte{2, 0}, all, api.ErrForm}, {[]byte{8, 0}, all, api.ErrForm}, {[]byte{8, 0, 1}, 0, api.ErrForm}, {[]byte{2, 0, 0}, all, api.ErrForm},
		{[]byte{1}, all, api.ErrEnd}, {[]byte{8}, all, api.ErrEnd}, {[]byte{2, 1}, all, api.ErrEnd}, {[]byte{2, 1}, 0, api.ErrEnd},
		{[]byte{8, 1, 2, 3, 4, 5, 6, 7}, all, api.ErrEnd}, {[]byte{8, 1, 0, 0, 0, 0, 0, 0}, 0, api.ErrEnd},
		{[]byte{1, 1}, 0, api.ErrLong}, {[]byte{1, 7}, 5, api.ErrLong}, {[]byte{1, 7}, 6, api.ErrLong}, {[]byte{1, 255}, 254, api.ErrLong}, {[]byte{2, 1, 0}, 255, api.ErrLong},
		{[]byte{4, 1, 0, 0, 0}, 1<<24 - 1, api.ErrLong}, {[]byte{8, 255, 255, 255, 255, 255, 255, 255, 255}, all - 1, api.ErrLong},
		{[]byte{8, 128, 0, 0, 0, 0, 0, 0, 0}, 1<<63 - 1, api.ErrLong}, {[]byte{8, 128, 0, 0, 0, 0, 0, 0, 0, 77}, 1<<63 - 1, api.ErrLong},
	} {
		faults = append(faults, fault{c.b, callNum(c.most), c.want, len(c.b)})
	}
	check(t, faults)
}

// P4.2: the errors of a string, in the chapter's order; its maximum is that of its bytes.
func TestP42TextErrors(t *testing.T) {
	var faults []fault
	for _, c := range []struct {
		b    []byte
		most int
		want api.Errno
	}{
		{nil, 5, api.ErrEnd}, {nil, -1, api.ErrEnd}, {[]byte{9}, 5, api.ErrForm}, {[]byte{1, 0}, 5, api.ErrForm}, {[]byte{2, 0}, 0, api.ErrForm}, {[]byte{3, 0, 9, 9, 1}, 0, api.ErrForm},
		{[]byte{1}, 5, api.ErrEnd}, {[]byte{2, 1}, 0, api.ErrEnd}, {[]byte{8, 255, 255, 255, 255, 255, 255, 255}, 5, api.ErrEnd},
		{words("abc"), 2, api.ErrLong}, {words("abc"), 0, api.ErrLong}, {words("a"), -1, api.ErrLong}, {words("a"), math.MinInt, api.ErrLong}, {words("a")[:2], 0, api.ErrLong},
		{[]byte{1, 200}, 199, api.ErrLong}, {number(math.MaxUint64), math.MaxInt, api.ErrLong}, {number(1 << 63), math.MaxInt, api.ErrLong},
		{words(strings.Repeat("x", 65536)), 65535, api.ErrLong},
		{words("abc")[:4], 3, api.ErrEnd}, {words("abc")[:2], 3, api.ErrEnd}, {[]byte{1, 1}, 1, api.ErrEnd}, {[]byte{1, 200}, 200, api.ErrEnd},
		{number(math.MaxInt), math.MaxInt, api.ErrEnd}, {append(number(math.MaxInt-8), 1, 2, 3), math.MaxInt, api.ErrEnd}, {append(number(1<<62), random(60, 1)...), math.MaxInt, api.ErrEnd},
		{words(strings.Repeat("x", 65536))[:65539], 65536, api.ErrEnd},
	} {
		faults = append(faults, fault{c.b, callText(c.most), c.want, len(c.b)})
	}
	check(t, faults)
}

// P4.2: the errors of a flag: a number above 1 is a wrong form, not too long.
func TestP42FlagErrors(t *testing.T) {
	var faults []fault
	for _, c := range []struct {
		b    []byte
		want api.Errno
	}{
		{nil, api.ErrEnd}, {[]byte{9}, api.ErrForm}, {[]byte{255, 1}, api.ErrForm}, {[]byte{1, 0}, api.ErrForm}, {[]byte{2, 0}, api.ErrForm}, {[]byte{2, 0, 1}, api.ErrForm},
		{[]byte{1}, api.ErrEnd}, {[]byte{2, 1}, api.ErrEnd}, {[]byte{1, 2}, api.ErrForm}, {[]byte{1, 255}, api.ErrForm}, {[]byte{2, 1, 0}, api.ErrForm}, {[]byte{2, 1, 1, 0}, api.ErrForm},
		{number(1 << 32), api.ErrForm}, {number(1<<32 + 1), api.ErrForm}, {number(math.MaxUint64), api.ErrForm},
	} {
		faults = append(faults, fault{c.b, callFlag(), c.want, len(c.b)})
	}
	check(t, faults)
}

// P4.2, P4.3: the errors of a list's number of elements: all of the list is left then.
func TestP42CountErrors(t *testing.T) {
	var faults []fault
	for _, c := range []struct {
		b    []byte
		many int
		want api.Errno
	}{
		{nil, 5, api.ErrEnd}, {nil, -5, api.ErrEnd}, {[]byte{9}, 5, api.ErrForm}, {[]byte{1, 0}, 5, api.ErrForm}, {[]byte{2, 0}, 0, api.ErrForm}, {[]byte{1}, 5, api.ErrEnd}, {[]byte{2, 1}, 0, api.ErrEnd},
		{[]byte{1, 1, 0}, 0, api.ErrLong}, {[]byte{1, 1, 0}, -1, api.ErrLong}, {[]byte{1, 1, 0}, math.MinInt, api.ErrLong}, {[]byte{1, 3, 0, 0, 0}, 2, api.ErrLong}, {[]byte{1, 6}, 5, api.ErrLong},
		{[]byte{2, 1, 0, 9}, 255, api.ErrLong}, {number(math.MaxUint64), math.MaxInt, api.ErrLong}, {number(1 << 63), math.MaxInt, api.ErrLong}, {[]byte{1, 3, 9}, 2, api.ErrLong},
	} {
		faults = append(faults, fault{c.b, callTexts(c.many, 9), c.want, len(c.b)}, fault{c.b, callNums(c.many, 9), c.want, len(c.b)})
	}
	check(t, faults)
}

// P4.2, P4.3: the errors of a list's elements: that element, and what comes behind it, is left then, and no element is answered.
func TestP42ElementErrors(t *testing.T) {
	three := []byte{1, 3}
	texts, nums := strs("a", "bc", "def"), numbers(1, 2, 300)
	check(t, []fault{
		{[]byte{1, 1}, callTexts(1, 9), api.ErrEnd, 0}, {[]byte{1, 1}, callNums(1, 9), api.ErrEnd, 0},
		{append(three, words("ab")...), callTexts(3, 9), api.ErrEnd, 0}, {append(three, number(8)...), callNums(3, 9), api.ErrEnd, 0},
		{append(three, 0, 0, 9, 7), callTexts(3, 9), api.ErrForm, 2}, {append(three, 0, 0, 9, 7), callNums(3, 9), api.ErrForm, 2},
		{append(three, 0, 1, 0, 7), callTexts(3, 9), api.ErrForm, 3}, {append(three, 0, 1, 0, 7), callNums(3, 9), api.ErrForm, 3},
		{append(three, 0, 2, 0), callTexts(3, 9), api.ErrForm, 2}, {append(three, 0, 2, 0), callNums(3, 9), api.ErrForm, 2},
		{append(three, 0, 2, 1), callTexts(3, 9), api.ErrEnd, 2}, {append(three, 0, 2, 1), callNums(3, 9), api.ErrEnd, 2},
		{strs("a", "bcd", "e"), callTexts(3, 2), api.ErrLong, 8}, {strs("a", "b", "c"), callTexts(3, 0), api.ErrLong, 9},
		{strs("", "", "c"), callTexts(3, -1), api.ErrLong, 3}, {strs("", "", "c"), callTexts(3, math.MinInt), api.ErrLong, 3},
		{numbers(1, 300, 2), callNums(3, 299), api.ErrLong, 5}, {numbers(5, 6, 7), callNums(3, 6), api.ErrLong, 2}, {numbers(0, 0, 1), callNums(3, 0), api.ErrLong, 2},
		{texts[:10], callTexts(3, 9), api.ErrEnd, 1}, {texts[:11], callTexts(3, 9), api.ErrEnd, 2}, {texts[:13], callTexts(3, 9), api.ErrEnd, 4},
		{texts[:11], callTexts(3, 2), api.ErrLong, 2}, {nums[:8], callNums(3, 999), api.ErrEnd, 2}, {nums[:6], callNums(3, 999), api.ErrEnd, 0},
	})
}

// P4.2: a list of which more elements are said to be there than there are bytes ends with the bytes.
func TestP42Many(t *testing.T) {
	var faults []fault
	for _, n := range []uint64{101, 70000, 1 << 31, 1 << 40, math.MaxInt - 1, math.MaxInt} {
		b := append(number(n), make([]byte, 100)...)
		faults = append(faults, fault{b, callTexts(math.MaxInt, math.MaxInt), api.ErrEnd, 0}, fault{b, callNums(math.MaxInt, math.MaxUint64), api.ErrEnd, 0},
			fault{append(b, 9), callTexts(math.MaxInt, math.MaxInt), api.ErrForm, 1}, fault{append(b, 9), callNums(math.MaxInt, math.MaxUint64), api.ErrForm, 1})
	}
	check(t, faults)
}

// P4.3: items come one behind the other; Left counts what is still there, Done asks for all of it, and neither they nor Wrong change anything.
func TestP43Steps(t *testing.T) {
	b := slices.Concat(number(300), words("ab"), []byte{1, 1}, strs("c", "", "de"), numbers(0, 7), []byte{0}, words(""), strs(), numbers())
	r := field.Read(b)
	for _, s := range []struct {
		c    call
		want any
		left int
	}{
		{callNum(300), uint64(300), 25}, {callText(2), "ab", 21}, {callFlag(), true, 19}, {callTexts(3, 2), []string{"c", "", "de"}, 9},
		{callNums(2, 7), []uint64{0, 7}, 4}, {callFlag(), false, 3}, {callText(0), "", 2}, {callTexts(0, 0), []string{}, 1}, {callNums(0, 0), []uint64{}, 0},
	} {
		for range 3 {
			if r.Wrong() != api.OK || r.Done() != api.ErrRest {
				t.Fatalf("ahead of %s: Wrong %d, Done %d", s.c.words, r.Wrong(), r.Done())
			}
		}
		if x := s.c.read(r); shown(x) != shown(s.want) || r.Left() != s.left {
			t.Fatalf("%s = %s, Left %d; want %s, Left %d", s.c.words, shown(x), r.Left(), shown(s.want), s.left)
		}
	}
	for range 3 {
		if r.Wrong() != api.OK || r.Done() != api.OK || r.Left() != 0 {
			t.Errorf("at the end: Wrong %d, Done %d, Left %d", r.Wrong(), r.Done(), r.Left())
		}
	}
	if n := r.Num(9); n != 0 || r.Wrong() != api.ErrEnd || r.Done() != api.ErrEnd || r.Left() != 0 {
		t.Errorf("behind the end: %d, Wrong %d, Done %d, Left %d", n, r.Wrong(), r.Done(), r.Left())
	}
}

// P4.3: the first error stays, whatever else would have been wrong later, and whatever could have been read.
func TestP43First(t *testing.T) {
	good := slices.Concat(number(5), words("ab"), []byte{1, 1}, strs("c"))
	for _, f := range []fault{
		{slices.Concat(good, []byte{9}, good), callNum(9), api.ErrForm, len(good) + 1},
		{slices.Concat(good, number(7), good), callNum(6), api.ErrLong, len(good) + 2},
		{slices.Concat(good, []byte{1, 2}, good), callFlag(), api.ErrForm, len(good) + 2},
		{slices.Concat(good, words("abc"), good), callText(2), api.ErrLong, len(good) + 5},
		{slices.Concat(good, strs("x", "yz"), good), callTexts(1, 2), api.ErrLong, len(good) + 9},
		{slices.Concat(good, strs("x", "yz"), good), callTexts(2, 1), api.ErrLong, len(good) + 4},
		{slices.Concat(good, numbers(1, 2), good), callNums(2, 1), api.ErrLong, len(good) + 2},
		{slices.Concat(good, []byte{2, 1}), callNum(9), api.ErrEnd, 2},
		{good, callNum(9), api.ErrEnd, 0},
	} {
		r := field.Read(f.b)
		if r.Num(5) != 5 || r.Text(2) != "ab" || !r.Flag() || !slices.Equal(r.Texts(1, 1), []string{"c"}) || r.Wrong() != api.OK {
			t.Fatalf("what comes ahead of the fault is not read: %d", r.Wrong())
		}
		if x := f.c.read(r); !empty(x) {
			t.Errorf("%s: %s", f.c.words, shown(x))
		}
		for range 2 {
			for _, c := range calls() {
				if x := c.read(r); !empty(x) || r.Wrong() != f.want || r.Done() != f.want || r.Left() != f.left {
					t.Errorf("%s behind %s: %s, Wrong %d, Done %d, Left %d; want %d, Left %d", c.words, f.c.words, shown(x), r.Wrong(), r.Done(), r.Left(), f.want, f.left)
				}
			}
		}
	}
}

// P4.4: a Reader that is not there, or that no call made, has nothing, and nothing is wrong with it.
func TestP44NoReader(t *testing.T) {
	var none *field.Reader
	var held struct{ r field.Reader }
	for i, r := range []*field.Reader{none, {}, new(field.Reader), &held.r} {
		for _, c := range calls() {
			if x := c.read(r); !empty(x) || r.Wrong() != api.OK || r.Done() != api.OK || r.Left() != 0 {
				t.Errorf("Reader %d, %s: %s, Wrong %d, Done %d, Left %d", i, c.words, shown(x), r.Wrong(), r.Done(), r.Left())
			}
		}
	}
	for _, b := range [][]byte{nil, {}} {
		r := field.Read(b)
		if r == nil || r.Wrong() != api.OK || r.Done() != api.OK || r.Left() != 0 {
			t.Fatal("a Reader of no bytes is not as it should be")
		}
		if r.Num(1); r.Wrong() != api.ErrEnd {
			t.Errorf("a Reader of no bytes, behind Num: %d", r.Wrong())
		}
	}
}

// P4.2, P4.3: any few bytes, read by any two calls, as the chapter's words have it.
func TestAnyBytes(t *testing.T) {
	some, all := []byte{0, 1, 2, 3, 8, 9, 255}, calls()
	level := [][]byte{nil}
	for range 6 {
		var next [][]byte
		for _, b := range level {
			for i, c := range all {
				r, m := field.Read(b), &told{b: b}
				if bad := agree(r, m, c); bad != "" {
					t.Fatalf("% x: %s", b, bad)
				}
				again := all[(i*7+len(b))%len(all)]
				if bad := agree(r, m, again); bad != "" {
					t.Fatalf("% x, behind %s: %s", b, c.words, bad)
				}
			}
			for _, x := range some {
				next = append(next, append(slices.Clone(b), x))
			}
		}
		level = next
	}
}

// laid is some items by the words of the definition, and the calls that read them.
func laid(seed uint32) ([]byte, []call, []any) {
	var b []byte
	var cs []call
	var xs []any
	r := random(200, seed)
	for i := 0; i < int(r[0])%9; i++ {
		at := 1 + 20*i
		n := new(big.Int).SetBytes(r[at : at+int(r[at+9])%9]).Uint64()
		s := string(r[at+1 : at+1+int(r[at+8])%9])
		switch r[at+10] % 5 {
		case 0:
			b, cs, xs = append(b, number(n)...), append(cs, callNum(n)), append(xs, n)
		case 1:
			b, cs, xs = append(b, words(s)...), append(cs, callText(len(s))), append(xs, s)
		case 2:
			b, cs, xs = append(b, number(n%2)...), append(cs, callFlag()), append(xs, n%2 == 1)
		case 3:
			l := []string{s, "", s[:len(s)/2], s}[:r[at+11]%5]
			b, cs, xs = append(b, strs(l...)...), append(cs, callTexts(len(l), len(s))), append(xs, l)
		case 4:
			l := []uint64{n, 0, n / 2, n}[:r[at+11]%5]
			b, cs, xs = append(b, numbers(l...)...), append(cs, callNums(len(l), n)), append(xs, l)
		}
	}
	return b, cs, xs
}

// P4.5: items are read back as they were laid, in their order, and laid again they are the same bytes.
func TestP45ThereAndBack(t *testing.T) {
	for seed := range uint32(3000) {
		want, cs, xs := laid(seed)
		var b []byte
		for i, c := range cs {
			b = c.lay(b, xs[i])
		}
		if !bytes.Equal(b, want) {
			t.Fatalf("seed %d: laid % x, want % x", seed, b, want)
		}
		r := field.Read(b)
		var again []byte
		for i, c := range cs {
			x := c.read(r)
			if shown(x) != shown(xs[i]) {
				t.Fatalf("seed %d: %s = %s, want %s", seed, c.words, shown(x), shown(xs[i]))
			}
			again = c.lay(again, x)
		}
		if r.Done() != api.OK || !bytes.Equal(again, b) {
			t.Fatalf("seed %d: Done %d, laid again % x, want % x", seed, r.Done(), again, b)
		}
	}
}

// P4.5: whatever bytes are read up to their end without an error are those that laying what was read gives.
func TestP45OneForm(t *testing.T) {
	read := 0
	for seed := range uint32(3000) {
		b, cs, _ := laid(seed)
		noise := random(4, seed+9)
		for _, other := range spoilt(b, noise) {
			r, m := field.Read(other), &told{b: other}
			var again []byte
			for _, c := range cs {
				again = c.lay(again, c.read(r))
				c.read(m)
			}
			if r.Done() != m.Done() || r.Left() != m.Left() {
				t.Fatalf("seed %d, % x: Done %d, Left %d; want Done %d, Left %d", seed, other, r.Done(), r.Left(), m.Done(), m.Left())
			}
			if r.Done() != api.OK {
				continue
			}
			read++
			if !bytes.Equal(again, other) {
				t.Fatalf("seed %d: % x laid again is % x", seed, other, again)
			}
		}
	}
	if read < 3000 {
		t.Errorf("only %d of the byte strings were read up to their end", read)
	}
}

// spoilt is bytes as they are, cut, longer, with one of them another one, and with one more of them.
func spoilt(b, noise []byte) [][]byte {
	l := [][]byte{b, append(slices.Clone(b), 0), append(slices.Clone(b), noise[0])}
	if len(b) == 0 {
		return l
	}
	at := int(noise[1]) % len(b)
	turned := slices.Clone(b)
	turned[at] ^= 1 << (noise[2] % 8)
	low := slices.Clone(b)
	low[at] = noise[3] % 10
	return append(l, b[:at], turned, low, slices.Insert(slices.Clone(b), at, 0), slices.Insert(slices.Clone(b), at, noise[3]))
}

// P4.5: each number has one form only among all byte strings of up to three bytes.
func TestP45OneNumber(t *testing.T) {
	forms := map[uint64]string{}
	for i := range 1 << 24 {
		b := []byte{byte(i >> 16), byte(i >> 8), byte(i)}
		if i>>8 == 0 {
			b = b[2:]
		} else if i>>16 == 0 {
			b = b[1:]
		}
		r := field.Read(b)
		n := r.Num(math.MaxUint64)
		if r.Done() != api.OK {
			continue
		}
		if old, found := forms[n]; found && old != string(b) {
			t.Fatalf("%d has the forms % x and % x", n, old, b)
		}
		forms[n] = string(b)
	}
	if len(forms) != 1<<16 {
		t.Errorf("%d numbers have a form of up to three bytes", len(forms))
	}
}

// wipe overwrites bytes and their spare capacity.
func wipe(b []byte) {
	b = b[:cap(b)]
	for i := range b {
		b[i] = 0x77
	}
}

// R3: arguments stay as they are, their spare capacity too.
func TestArguments(t *testing.T) {
	whole := random(200, 8)
	texts, nums := []string{"b", "a", "c"}, []uint64{2, 1, 3}
	for _, n := range []int{0, 1, 100, 199, 200} {
		b := whole[:n]
		field.Num(b, 77)
		field.Text(b, "abc")
		field.Flag(b, true)
		field.Texts(b, texts[:2])
		field.Nums(b, nums[:2])
		r := field.Read(b)
		for _, c := range calls() {
			c.read(r)
		}
	}
	if !bytes.Equal(whole, random(200, 8)) || !slices.Equal(texts, []string{"b", "a", "c"}) || !slices.Equal(nums, []uint64{2, 1, 3}) {
		t.Error("an argument was changed")
	}
}

// R3: results share memory neither with arguments nor with one another.
func TestResults(t *testing.T) {
	base := append(make([]byte, 0, 400), 1, 2, 3)
	lay := map[string]func() []byte{
		"Num": func() []byte { return field.Num(base, 300) }, "Text": func() []byte { return field.Text(base, "ab") }, "Flag": func() []byte { return field.Flag(base, false) },
		"Texts": func() []byte { return field.Texts(base, nil) }, "Nums": func() []byte { return field.Nums(base, []uint64{4}) },
	}
	for name, f := range lay {
		one, two := f(), f()
		want := slices.Clone(two)
		wipe(one)
		if !bytes.Equal(base, []byte{1, 2, 3}) || !bytes.Equal(two, want) {
			t.Errorf("a result of %s shares memory", name)
		}
	}
	for _, empty := range [][]byte{nil, {}, make([]byte, 0, 50)} {
		one := field.Num(empty, 0)
		two := field.Num(empty, 5)
		if !bytes.Equal(one, []byte{0}) || !bytes.Equal(two, []byte{1, 5}) {
			t.Errorf("laid behind nothing: % x, % x", one, two)
		}
	}
}

// R3, R4: a Reader keeps to what its bytes were at the call, and shares nothing with another one.
func TestReadersApart(t *testing.T) {
	b := slices.Concat(strs("ab", "c"), numbers(5, 6), words("def"), strs("ab", "c"), numbers(5, 6))
	one, two := field.Read(b), field.Read(b)
	wipe(b)
	for _, r := range []*field.Reader{one, two} {
		texts, nums := r.Texts(9, 9), r.Nums(9, 9)
		s := r.Text(9)
		if s != "def" || !slices.Equal(texts, []string{"ab", "c"}) || !slices.Equal(nums, []uint64{5, 6}) {
			t.Fatalf("%q, %q, %d", s, texts, nums)
		}
		clear(texts[:cap(texts)])
		clear(nums[:cap(nums)])
		if more := r.Texts(9, 9); !slices.Equal(more, []string{"ab", "c"}) {
			t.Errorf("%q", more)
		}
		if more := r.Nums(9, 9); !slices.Equal(more, []uint64{5, 6}) || r.Done() != api.OK {
			t.Errorf("%d, Done %d", more, r.Done())
		}
	}
	bad, good := field.Read([]byte{9}), field.Read([]byte{1, 5})
	if bad.Num(9); bad.Wrong() != api.ErrForm || good.Num(9) != 5 || good.Wrong() != api.OK {
		t.Error("an error of one Reader is seen by another one")
	}
}
