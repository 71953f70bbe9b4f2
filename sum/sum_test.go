package sum_test

import (
	"bytes"
	"hash/crc32"
	"math/bits"
	"slices"
	"testing"

	"sodality/sum"
)

// register is the 32 bits of the chapter's definition, the highest first.
type register [32]bool

// started is the register that has a number's bits.
func started(n uint32) register {
	var r register
	for i := range r {
		r[i] = n>>(31-i)&1 == 1
	}
	return r
}

// combine turns the bits that are set in a number.
func (r *register) combine(n uint32) {
	for i := range r {
		r[i] = r[i] != (n>>(31-i)&1 == 1)
	}
}

// shift moves the register left by one bit and says which bit left it.
func (r *register) shift() bool {
	out := r[0]
	copy(r[:], r[1:])
	r[31] = false
	return out
}

// number is the register's bits as a number.
func (r *register) number() uint32 {
	n := uint32(0)
	for i := range r {
		n *= 2
		if r[i] {
			n++
		}
	}
	return n
}

// defined is the sum by the words of the definition, going on from a sum.
func defined(s uint32, b []byte) uint32 {
	r := started(^s)
	for _, x := range b {
		r.combine(uint32(x) << 24)
		for range 8 {
			if r.shift() {
				r.combine(0x04c11db7)
			}
		}
	}
	return ^r.number()
}

// mirrored is the sum by the library's check, which runs over the bits the other way round.
func mirrored(s uint32, b []byte) uint32 {
	turned := make([]byte, len(b))
	for i, x := range b {
		turned[i] = bits.Reverse8(x)
	}
	return bits.Reverse32(crc32.Update(bits.Reverse32(s), crc32.IEEETable, turned))
}

// text is n bytes that follow from a seed.
func text(n int, seed uint32) []byte {
	b := make([]byte, n)
	for i := range b {
		seed = seed*1664525 + 1013904223
		b[i] = byte(seed >> 24)
	}
	return b
}

// texts is short and long texts: every single byte, even ones, and others.
func texts() [][]byte {
	all := [][]byte{nil, {}, text(4096, 1), text(1<<16+1, 2)}
	for i := range 256 {
		all = append(all, []byte{byte(i)}, []byte{0, byte(i)}, []byte{byte(i), 0}, []byte{0xff, byte(i), 0x80})
	}
	for n := range 70 {
		all = append(all, text(n, uint32(n)), make([]byte, n), bytes.Repeat([]byte{0xff}, n))
	}
	return all
}

// sums is what a sum may go on from.
func sums() []uint32 {
	all := []uint32{0, 1<<32 - 1, 0x04c11db7, 0xfc891918, 0x01020304, 0x12345678, 0xdeadbeef, 0x55555555, 0xaaaaaaaa}
	for i := range 32 {
		all = append(all, 1<<i, ^uint32(1<<i))
	}
	return all
}

// sealed is bytes with their sum behind them.
func sealed(b []byte) []byte {
	return append(slices.Clone(b), sum.Bytes(sum.Sum(b))...)
}

// turned is bytes with one bit turned, counted from the highest of the first byte on.
func turned(b []byte, bit int) []byte {
	out := slices.Clone(b)
	out[bit/8] ^= 0x80 >> (bit % 8)
	return out
}

// over is texts of one length laid over one another by exclusive or.
func over(l ...[]byte) []byte {
	out := make([]byte, len(l[0]))
	for _, b := range l {
		for i, x := range b {
			out[i] ^= x
		}
	}
	return out
}

// The chapter's examples.
func TestExamples(t *testing.T) {
	if s := sum.Sum([]byte("123456789")); s != 0xfc891918 {
		t.Errorf("Sum(123456789) = %08x", s)
	}
	if s := sum.Sum(); s != 0 {
		t.Errorf("Sum() = %08x", s)
	}
	if s := sum.From(sum.Sum([]byte("1234")), []byte("56789")); s != 0xfc891918 {
		t.Errorf("From(Sum(1234), 56789) = %08x", s)
	}
	if b := sum.Bytes(0x01020304); !bytes.Equal(b, []byte{1, 2, 3, 4}) {
		t.Errorf("Bytes(01020304) = % x", b)
	}
	if !sum.Sealed([]byte{0, 0, 0, 0}) {
		t.Error("Sealed(00 00 00 00) = false")
	}
	if sum.Sealed([]byte{0, 0, 0}) {
		t.Error("Sealed(00 00 00) = true")
	}
}

// P2.1: Sum is the checksum of the definition.
func TestP21Sum(t *testing.T) {
	for _, b := range texts() {
		want := defined(0, b)
		if got := sum.Sum(b); got != want || mirrored(0, b) != want {
			t.Fatalf("Sum of %d bytes % x = %08x, want %08x", len(b), b[:min(len(b), 8)], got, want)
		}
	}
}

// P2.1: no piece, and empty pieces, wherever they stand.
func TestP21EmptyPieces(t *testing.T) {
	b := text(9, 9)
	for _, pieces := range [][][]byte{nil, {}, {nil}, {{}}, {nil, nil, {}}} {
		if s := sum.Sum(pieces...); s != 0 {
			t.Errorf("Sum of %d empty pieces = %08x", len(pieces), s)
		}
	}
	for _, pieces := range [][][]byte{{b, nil}, {nil, b}, {{}, b, {}}, {b[:4], nil, {}, b[4:]}} {
		if s := sum.Sum(pieces...); s != defined(0, b) {
			t.Errorf("Sum of %d pieces, some empty = %08x, want %08x", len(pieces), s, defined(0, b))
		}
	}
}

// P2.1: a text cut into pieces in every way has one sum.
func TestP21EveryCut(t *testing.T) {
	for n := 1; n <= 10; n++ {
		b := text(n, uint32(n))
		want := defined(0, b)
		for cuts := range 1 << (n - 1) {
			var pieces [][]byte
			from := 0
			for i := 1; i <= n; i++ {
				if i == n || cuts>>(i-1)&1 == 1 {
					pieces = append(pieces, b[from:i])
					from = i
				}
			}
			if got := sum.Sum(pieces...); got != want {
				t.Fatalf("Sum of %q in %d pieces (cuts %b) = %08x, want %08x", b, len(pieces), cuts, got, want)
			}
		}
	}
}

// P2.1: From goes on from any sum, and with no byte stays there.
func TestP21From(t *testing.T) {
	for _, s := range sums() {
		if a, b := sum.From(s, nil), sum.From(s, []byte{}); a != s || b != s {
			t.Errorf("From(%08x, no byte) = %08x, %08x", s, a, b)
		}
		for _, b := range texts() {
			if len(b) > 100 {
				continue
			}
			want := mirrored(s, b)
			if got := sum.From(s, b); got != want || defined(s, b) != want {
				t.Fatalf("From(%08x, % x) = %08x, want %08x", s, b, got, want)
			}
		}
	}
}

// P2.1: From and Sum go together at every cut.
func TestP21FromSum(t *testing.T) {
	b := text(300, 300)
	for i := range len(b) + 1 {
		if got := sum.From(sum.Sum(b[:i]), b[i:]); got != defined(0, b) {
			t.Fatalf("From(Sum of %d bytes, the rest) = %08x, want %08x", i, got, defined(0, b))
		}
	}
}

// P2.2: Bytes is the four bytes, the highest first.
func TestP22Bytes(t *testing.T) {
	for _, s := range sums() {
		want := []byte{byte(s >> 24), byte(s >> 16), byte(s >> 8), byte(s)}
		if got := sum.Bytes(s); !bytes.Equal(got, want) {
			t.Errorf("Bytes(%08x) = % x", s, got)
		}
	}
}

// P2.2: Sealed holds bytes to their last four, of whatever length.
func TestP22Sealed(t *testing.T) {
	few := []byte{0, 1, 0x80, 0xff}
	level := [][]byte{nil}
	for n := range 6 {
		for _, b := range level {
			s := defined(0, b[:max(n-4, 0)])
			want := n >= 4 && bytes.Equal(b[n-4:], []byte{byte(s >> 24), byte(s >> 16), byte(s >> 8), byte(s)})
			if got := sum.Sealed(b); got != want {
				t.Fatalf("Sealed(% x) = %v", b, got)
			}
		}
		var next [][]byte
		for _, b := range level {
			for _, x := range few {
				next = append(next, append(slices.Clone(b), x))
			}
		}
		level = next
	}
	for _, b := range texts() {
		if !sum.Sealed(sealed(b)) {
			t.Errorf("%d bytes % x with their sum are not sealed", len(b), b[:min(len(b), 8)])
		}
	}
}

// P2.2: what has its sum elsewhere, or turned round, or a bit more or less, is not sealed.
func TestP22NotSealed(t *testing.T) {
	for _, n := range []int{0, 1, 2, 3, 4, 5, 6, 7, 8, 9, 31, 32, 33, 200, 1000} {
		b := sealed(text(n, uint32(n)+7))
		for bit := range len(b) * 8 {
			if sum.Sealed(turned(b, bit)) {
				t.Errorf("%d sealed bytes with bit %d turned are sealed", len(b), bit)
			}
		}
		if n == 0 {
			continue
		}
		backwards := slices.Clone(b)
		slices.Reverse(backwards[n:])
		front := slices.Concat(b[n:], b[:n])
		for _, other := range [][]byte{backwards, front, b[1:], b[:len(b)-1], append(slices.Clone(b), 1)} {
			if sum.Sealed(other) {
				t.Errorf("% x is sealed, made of % x", other, b)
			}
		}
	}
}

// P2.3: the sum of three texts laid over one another is their sums laid over one another.
func TestP23Three(t *testing.T) {
	for n := range 64 {
		for seed := range uint32(8) {
			a, b, c := text(n, seed), text(n, seed*7+100), text(n, seed*31+1000)
			if seed == 0 {
				c = make([]byte, n)
			}
			want := sum.Sum(a) ^ sum.Sum(b) ^ sum.Sum(c)
			if got := sum.Sum(over(a, b, c)); got != want {
				t.Fatalf("Sum of three texts of %d bytes = %08x, want %08x", n, got, want)
			}
		}
	}
}

// patterns is differences within 32 bits, whose highest bit is set: each of few bits, and others.
func patterns() []uint32 {
	all := []uint32{1 << 31, 1<<32 - 1, 0x04c11db7<<5 | 1, 0x80000001, 0xedb88320, 0xaaaaaaaa, 0xfc891918}
	for i := range 31 {
		all = append(all, 1<<31|1<<i, ^uint32(1<<i), 1<<31>>i|1<<31, -(uint32(1) << i))
		for j := range i {
			all = append(all, 1<<31|1<<i|1<<j)
		}
	}
	seed := uint32(5)
	for range 200 {
		seed = seed*1664525 + 1013904223
		all = append(all, seed|1<<31)
	}
	return all
}

// burst is bytes with a pattern laid over them whose highest bit falls on a bit; nothing if it does not fit.
func burst(b []byte, pattern uint32, bit int) []byte {
	out := b
	for i := range 32 {
		if pattern>>(31-i)&1 == 0 {
			continue
		}
		if bit+i >= len(b)*8 {
			return nil
		}
		out = turned(out, bit+i)
	}
	return out
}

// P2.3: texts that differ within 32 bits have different sums.
func TestP23Burst(t *testing.T) {
	for _, n := range []int{1, 2, 4, 5, 9} {
		b := text(n, uint32(n)+50)
		for _, p := range patterns() {
			for bit := range n * 8 {
				other := burst(b, p, bit)
				if other != nil && sum.Sum(other) == sum.Sum(b) {
					t.Fatalf("% x and % x have one sum", b, other)
				}
			}
		}
	}
}

// P2.3: of two texts that differ within 32 bits one at most is sealed, also where the bits lie across the border to the sum.
func TestP23BurstSealed(t *testing.T) {
	for _, n := range []int{0, 1, 3, 6} {
		b := sealed(text(n, uint32(n)+60))
		across := 0
		for _, p := range patterns() {
			for bit := range len(b) * 8 {
				other := burst(b, p, bit)
				if other == nil {
					continue
				}
				if bit < n*8 && !bytes.Equal(other[n:], b[n:]) {
					across++
				}
				if sum.Sealed(other) {
					t.Fatalf("% x and % x are both sealed", b, other)
				}
			}
		}
		if n > 0 && across == 0 {
			t.Errorf("no bits across the border of %d bytes and their sum", n)
		}
	}
}

// R3: arguments stay as they are, their spare bytes too, and Bytes hands out new memory.
func TestMemory(t *testing.T) {
	whole := append(text(20, 3), 1, 2, 3, 4)
	before := slices.Clone(whole)
	pieces := [][]byte{whole[:5], nil, whole[5:12], whole[12:20]}
	sum.Sum(pieces...)
	sum.From(7, whole[:20])
	sum.Sealed(whole[:20])
	sum.Sealed(whole[:2])
	if !bytes.Equal(whole, before) {
		t.Error("an argument was changed")
	}
	if len(pieces) != 4 || len(pieces[0]) != 5 || pieces[1] != nil || len(pieces[2]) != 7 || len(pieces[3]) != 8 {
		t.Error("the list of pieces was changed")
	}
	a, b := sum.Bytes(9), sum.Bytes(9)
	a[0] = 1
	_ = append(a[:1], 8, 8, 8)
	if !bytes.Equal(b, []byte{0, 0, 0, 9}) || !bytes.Equal(sum.Bytes(9), b) {
		t.Error("two results of Bytes share memory")
	}
}

// R4: a sum hangs on its arguments alone, not on what was asked before.
func TestRepeated(t *testing.T) {
	b := text(50, 4)
	first := sum.Sum(b)
	sum.Sum(text(51, 5))
	sum.From(1<<32-1, b)
	if sum.Sum(b) != first {
		t.Error("Sum answers the same bytes in two ways")
	}
}
