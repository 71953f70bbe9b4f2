package draw_test

import (
	"math"
	"math/big"
	"slices"
	"testing"

	"sodality/draw"
)

// numbers is n numbers that follow from a seed.
func numbers(n int, seed uint32) []uint32 {
	l := make([]uint32, n)
	for i := range l {
		seed = seed*1664525 + 1013904223
		l[i] = seed ^ seed>>16
	}
	return l
}

// edges is the least and greatest numbers, and those around each power of two.
func edges() []uint32 {
	l := []uint32{0, 1, 2, 3, math.MaxUint32, math.MaxUint32 - 1, math.MaxUint32 / 3, math.MaxUint32/3 + 1, math.MaxUint32 / 3 * 2, 0xfc891918}
	for i := range 32 {
		n := uint32(1) << i
		l = append(l, n-1, n, n+1, ^n)
	}
	return l
}

// bounds is small and great bounds, those around each power of two, and those below 2.
func bounds() []int {
	l := []int{0, 1, 2, 3, 10, 63, 64, 65, 1000, -1, -2, -10, math.MinInt, math.MinInt + 1, math.MinInt32, math.MaxInt, math.MaxInt - 1}
	for i := range 63 {
		n := 1 << i
		l = append(l, n-1, n, n+1, -n, n*3)
	}
	return l
}

// told is draws by the words of the chapter.
type told struct {
	l     []uint32
	taken int
}

// below is what P5.2 says of Below.
func (m *told) below(n int) int {
	if n < 2 || m.taken == len(m.l) {
		return 0
	}
	x := new(big.Int).SetUint64(uint64(m.l[m.taken]))
	m.taken++
	limit := new(big.Int).Lsh(big.NewInt(1), 31)
	factor := big.NewInt(int64(n))
	if factor.Cmp(limit) > 0 {
		factor = limit
	}
	x.Mul(x, factor)
	return int(x.Quo(x, new(big.Int).Lsh(big.NewInt(1), 32)).Int64())
}

// order is what P5.3 says of Order.
func (m *told) order(n int) []int {
	if n < 0 {
		n = 0
	}
	if n > 64 {
		n = 64
	}
	l := []int{}
	for i := 0; i < n; i++ {
		l = append(l, i)
	}
	for i := n - 1; i >= 1; i-- {
		j := m.below(i + 1)
		old := l[i]
		l[i] = l[j]
		l[j] = old
	}
	return l
}

// some is what P5.3 says of Some.
func (m *told) some(n, k int) []int {
	l := m.order(n)
	if k < 0 {
		k = 0
	}
	if k < len(l) {
		l = l[:k]
	}
	return l
}

// agree fails where draws have taken, or have left, another number of numbers.
func agree(t *testing.T, what string, d *draw.Draws, m *told) {
	t.Helper()
	if d.Taken() != m.taken || d.Left() != len(m.l)-m.taken {
		t.Fatalf("%s: Taken %d, Left %d, want %d, %d", what, d.Taken(), d.Left(), m.taken, len(m.l)-m.taken)
	}
}

// The chapter's examples.
func TestExamples(t *testing.T) {
	if n := draw.New([]uint32{0x80000000}).Below(10); n != 5 {
		t.Errorf("New(0x80000000).Below(10) = %d", n)
	}
	if n := draw.New(nil).Below(10); n != 0 {
		t.Errorf("New().Below(10) = %d", n)
	}
	if n := draw.New([]uint32{0xffffffff}).Below(1); n != 0 {
		t.Errorf("New(0xffffffff).Below(1) = %d", n)
	}
	if l := draw.New([]uint32{0xffffffff, 0xffffffff}).Order(3); !slices.Equal(l, []int{0, 1, 2}) {
		t.Errorf("New(0xffffffff, 0xffffffff).Order(3) = %d", l)
	}
	if l := draw.New(nil).Order(3); !slices.Equal(l, []int{1, 2, 0}) {
		t.Errorf("New().Order(3) = %d", l)
	}
}

// P5.1: none is taken of what New is given, and each of it comes, in its order.
func TestP51New(t *testing.T) {
	for _, n := range []int{0, 1, 2, 3, 64, 4094, 4095, 4096, 4097, 4098, 5000, 1 << 16} {
		l := numbers(n, uint32(n)+1)
		d := draw.New(l)
		want := min(n, 4096)
		if d.Taken() != 0 || d.Left() != want {
			t.Fatalf("New of %d numbers: Taken %d, Left %d", n, d.Taken(), d.Left())
		}
		for i := range want {
			if got := d.Below(1 << 31); got != int(l[i]>>1) || d.Taken() != i+1 || d.Left() != want-i-1 {
				t.Fatalf("number %d of %d: %d, Taken %d, Left %d", i, n, got, d.Taken(), d.Left())
			}
		}
		for range 3 {
			if got := d.Below(1 << 31); got != 0 || d.Taken() != want || d.Left() != 0 {
				t.Fatalf("behind %d numbers: %d, Taken %d, Left %d", n, got, d.Taken(), d.Left())
			}
		}
	}
}

// P5.2: each number with each bound, as the exact product has it.
func TestP52Below(t *testing.T) {
	for _, x := range append(edges(), numbers(60, 2)...) {
		for _, n := range bounds() {
			d, m := draw.New([]uint32{x, 7}), &told{l: []uint32{x, 7}}
			if got, want := d.Below(n), m.below(n); got != want {
				t.Fatalf("Below(%d) with %08x = %d, want %d", n, x, got, want)
			}
			agree(t, "Below", d, m)
		}
	}
}

// P5.2: the product is cut, not rounded: a number changes where the next whole one is reached.
func TestP52Cut(t *testing.T) {
	for _, c := range []struct {
		x    uint32
		n    int
		want int
	}{
		{0, 2, 0}, {0x7fffffff, 2, 0}, {0x80000000, 2, 1}, {0xffffffff, 2, 1},
		{0x55555555, 3, 0}, {0x55555556, 3, 1}, {0xaaaaaaaa, 3, 1}, {0xaaaaaaab, 3, 2}, {0xffffffff, 3, 2},
		{0x19999999, 10, 0}, {0x1999999a, 10, 1}, {0xe6666666, 10, 8}, {0xe6666667, 10, 9}, {0xffffffff, 10, 9},
		{0xffffffff, 1<<31 - 1, 1<<31 - 2}, {0xffffffff, 1 << 31, 1<<31 - 1}, {2, 1 << 31, 1}, {1, 1 << 31, 0},
	} {
		if got := draw.New([]uint32{c.x}).Below(c.n); got != c.want {
			t.Errorf("Below(%d) with %08x = %d, want %d", c.n, c.x, got, c.want)
		}
	}
}

// P5.2: bounds above the greatest one count as it, and still take a number.
func TestP52GreatBound(t *testing.T) {
	for _, n := range []int{1<<31 + 1, 1<<31 + 2, 1 << 32, 1<<32 + 1, 1<<32 + 2, 1 << 33, 1 << 62, 3 << 61, math.MaxInt - 1, math.MaxInt} {
		for _, x := range edges() {
			d := draw.New([]uint32{x})
			if got := d.Below(n); got != int(x/2) || d.Taken() != 1 || d.Left() != 0 {
				t.Errorf("Below(%d) with %08x = %d, Taken %d, Left %d", n, x, got, d.Taken(), d.Left())
			}
		}
	}
}

// P5.2: a bound below 2 takes nothing, wherever it comes, and what comes next is not lost.
func TestP52SmallBound(t *testing.T) {
	l := []uint32{0xffffffff, 0x80000000, 0x40000000}
	d := draw.New(l)
	for i, want := range []int{99, 50, 25} {
		for _, n := range []int{1, 0, -1, -2, -100, math.MinInt32, math.MinInt, math.MinInt + 1} {
			if got := d.Below(n); got != 0 || d.Taken() != i || d.Left() != len(l)-i {
				t.Fatalf("Below(%d) = %d, Taken %d, Left %d", n, got, d.Taken(), d.Left())
			}
		}
		if got := d.Below(100); got != want || d.Taken() != i+1 {
			t.Fatalf("Below(100) = %d, want %d; Taken %d", got, want, d.Taken())
		}
	}
}

// P5.2: where no number is left, each bound gives 0.
func TestP52NoneLeft(t *testing.T) {
	empty, used := draw.New([]uint32{}), draw.New([]uint32{0xffffffff})
	used.Below(2)
	for _, n := range bounds() {
		if a, b := empty.Below(n), used.Below(n); a != 0 || b != 0 {
			t.Errorf("Below(%d) with nothing left = %d, %d", n, a, b)
		}
	}
	if empty.Taken() != 0 || empty.Left() != 0 || used.Taken() != 1 || used.Left() != 0 {
		t.Errorf("Taken %d, %d; Left %d, %d", empty.Taken(), used.Taken(), empty.Left(), used.Left())
	}
}

// P5.3: each order of a few places comes of one choice of numbers, by the chapter's words.
func TestP53EveryOrder(t *testing.T) {
	for n := range 7 {
		rows := [][]uint32{nil}
		for i := n - 1; i >= 1; i-- {
			var next [][]uint32
			for _, row := range rows {
				for j := range i + 1 {
					// The least number whose product with i + 1 reaches j.
					x := (uint64(j)<<32 + uint64(i)) / uint64(i+1)
					next = append(next, append(slices.Clone(row), uint32(x)))
				}
			}
			rows = next
		}
		orders := map[[6]int]bool{}
		for _, row := range rows {
			d, m := draw.New(row), &told{l: row}
			got, want := d.Order(n), m.order(n)
			if !slices.Equal(got, want) || d.Left() != 0 {
				t.Fatalf("Order(%d) with %08x = %d, want %d; Left %d", n, row, got, want, d.Left())
			}
			var key [6]int
			copy(key[:], got)
			orders[key] = true
		}
		if len(orders) != len(rows) {
			t.Errorf("%d orders of %d places, want %d", len(orders), n, len(rows))
		}
	}
}

// P5.3: Order takes one number less than it has places, from the last place down, and goes on without numbers where they end.
func TestP53Order(t *testing.T) {
	for _, n := range []int{0, 1, 2, 3, 4, 5, 8, 13, 62, 63, 64} {
		for _, have := range []int{0, 1, 2, 3, 7, 8, 61, 62, 63, 64, 65, 200} {
			for seed := range uint32(5) {
				l := numbers(have, seed*100+uint32(n)+3)
				d, m := draw.New(l), &told{l: l}
				for range 4 {
					if got, want := d.Order(n), m.order(n); !slices.Equal(got, want) {
						t.Fatalf("Order(%d) with %d numbers = %d, want %d", n, have, got, want)
					}
					agree(t, "Order", d, m)
				}
			}
		}
	}
	d := draw.New(numbers(100, 9))
	if d.Order(64); d.Taken() != 63 {
		t.Errorf("Order(64) took %d numbers", d.Taken())
	}
}

// P5.3: without numbers each place goes to the first one in its turn.
func TestP53NoNumbers(t *testing.T) {
	for n := range 65 {
		var want []int
		for i := 1; i < n; i++ {
			want = append(want, i)
		}
		if n > 0 {
			want = append(want, 0)
		}
		if got := draw.New(nil).Order(n); !slices.Equal(got, want) {
			t.Errorf("Order(%d) without numbers = %d", n, got)
		}
	}
}

// P5.3: a negative number of places counts as 0, and takes nothing; one above 64 counts as 64.
func TestP53OrderBounds(t *testing.T) {
	l := numbers(200, 4)
	for _, n := range []int{0, -1, -2, -64, math.MinInt32, math.MinInt, math.MinInt + 1} {
		d := draw.New(l)
		if got := d.Order(n); len(got) != 0 || d.Taken() != 0 || d.Left() != 200 {
			t.Errorf("Order(%d) = %d, Taken %d", n, got, d.Taken())
		}
		if got := d.Some(n, 5); len(got) != 0 || d.Taken() != 0 {
			t.Errorf("Some(%d, 5) = %d, Taken %d", n, got, d.Taken())
		}
	}
	want := draw.New(l).Order(64)
	for _, n := range []int{65, 66, 128, 1000, 1 << 20, 1 << 31, 1 << 32, 1<<32 + 3, math.MaxInt - 1, math.MaxInt} {
		d := draw.New(l)
		if got := d.Order(n); !slices.Equal(got, want) || d.Taken() != 63 {
			t.Errorf("Order(%d) = %d, Taken %d", n, got, d.Taken())
		}
		d = draw.New(l)
		if got := d.Some(n, math.MaxInt); !slices.Equal(got, want) || d.Taken() != 63 {
			t.Errorf("Some(%d, all) = %d, Taken %d", n, got, d.Taken())
		}
	}
}

// P5.3: Some is the first ones of Order, and takes as many numbers as it, also for none.
func TestP53Some(t *testing.T) {
	for _, n := range []int{-5, 0, 1, 2, 3, 4, 5, 9, 63, 64, 65, 100} {
		for _, k := range []int{math.MinInt, -2, -1, 0, 1, 2, 3, 4, 5, 6, 62, 63, 64, 65, 100, math.MaxInt} {
			for _, have := range []int{0, 1, 3, 63, 64, 200} {
				l := numbers(have, uint32(n+k+1000))
				d, m := draw.New(l), &told{l: l}
				if got, want := d.Some(n, k), m.some(n, k); !slices.Equal(got, want) {
					t.Fatalf("Some(%d, %d) with %d numbers = %d, want %d", n, k, have, got, want)
				}
				agree(t, "Some", d, m)
			}
		}
	}
}

// P5.4: Taken and Left count on through any calls, as the chapter's words have it, and asking changes nothing.
func TestP54Counts(t *testing.T) {
	for seed := range uint32(400) {
		l := numbers(int(seed)%130, seed+5)
		d, m := draw.New(l), &told{l: l}
		for i, x := range numbers(20, seed+77) {
			n, k := int(x%90)-10, int(x>>8%80)-5
			what, same := "Below", false
			switch x >> 20 % 3 {
			case 0:
				same = d.Below(n) == m.below(n)
			case 1:
				what, same = "Order", slices.Equal(d.Order(n%9), m.order(n%9))
			case 2:
				what, same = "Some", slices.Equal(d.Some(n%12, k), m.some(n%12, k))
			}
			if !same {
				t.Fatalf("seed %d, call %d: %s of %d, %d is another one", seed, i, what, n, k)
			}
			agree(t, what, d, m)
			agree(t, what+" asked again", d, m)
		}
	}
}

// P5.4: draws that are not there, or that New did not make, have no numbers.
func TestP54NoDraws(t *testing.T) {
	var none *draw.Draws
	var held struct{ d draw.Draws }
	var row [1]draw.Draws
	for i, d := range []*draw.Draws{none, {}, new(draw.Draws), &held.d, &row[0]} {
		for range 2 {
			if d.Taken() != 0 || d.Left() != 0 {
				t.Fatalf("draws %d: Taken %d, Left %d", i, d.Taken(), d.Left())
			}
			for _, n := range bounds() {
				if got := d.Below(n); got != 0 {
					t.Fatalf("draws %d: Below(%d) = %d", i, n, got)
				}
			}
			for _, n := range []int{math.MinInt, -1, 0, 1, 2, 3, 63, 64, 65, math.MaxInt} {
				if got, want := d.Order(n), draw.New(nil).Order(n); !slices.Equal(got, want) {
					t.Fatalf("draws %d: Order(%d) = %d", i, n, got)
				}
				for _, k := range []int{math.MinInt, -1, 0, 1, 2, 3, 64, 65, math.MaxInt} {
					if got, want := d.Some(n, k), draw.New(nil).Some(n, k); !slices.Equal(got, want) {
						t.Fatalf("draws %d: Some(%d, %d) = %d", i, n, k, got)
					}
				}
			}
		}
	}
	if l := none.Order(3); !slices.Equal(l, []int{1, 2, 0}) {
		t.Errorf("Order(3) of no draws = %d", l)
	}
	if l := new(draw.Draws).Some(3, 2); !slices.Equal(l, []int{1, 2}) {
		t.Errorf("Some(3, 2) of draws that New did not make = %d", l)
	}
}

// P5.5: an order has each number once, and a number stays below its bound.
func TestP55Within(t *testing.T) {
	for seed := range uint32(200) {
		d := draw.New(append(numbers(300, seed), edges()...))
		for n := range 70 {
			l := d.Order(n)
			slices.Sort(l)
			for i := range min(n, 64) {
				if len(l) != min(n, 64) || l[i] != i {
					t.Fatalf("Order(%d), sorted, = %d", n, l)
				}
			}
		}
	}
	for _, x := range append(edges(), numbers(500, 6)...) {
		for _, n := range bounds() {
			if got := draw.New([]uint32{x}).Below(n); n > 0 && (got < 0 || got >= n) {
				t.Fatalf("Below(%d) with %08x = %d", n, x, got)
			}
		}
	}
}

// R3: the list that is passed is neither changed nor kept, nor its spare room.
func TestArgument(t *testing.T) {
	for _, n := range []int{0, 1, 50, 4096} {
		whole := numbers(5000, 8)
		d := draw.New(whole[:n])
		d.Order(5)
		d.Some(9, 2)
		d.Below(7)
		if !slices.Equal(whole, numbers(5000, 8)) {
			t.Fatalf("the list of %d numbers was changed", n)
		}
		late := draw.New(whole[:n])
		for i := range whole {
			whole[i] = 0x77777777
		}
		for i, x := range numbers(5000, 8)[:n] {
			if got := late.Below(1 << 31); got != int(x>>1) {
				t.Fatalf("number %d of %d is another one after its list was: %08x", i, n, got)
			}
		}
		if late.Left() != 0 {
			t.Errorf("Left %d behind %d numbers", late.Left(), n)
		}
	}
}

// R3: results share memory with no other result, nor with the draws.
func TestResults(t *testing.T) {
	calls := map[string]func(d *draw.Draws) []int{
		"Order": func(d *draw.Draws) []int { return d.Order(6) }, "Some": func(d *draw.Draws) []int { return d.Some(6, 3) },
	}
	for call, do := range calls {
		for _, have := range []int{0, 3, 20} {
			d, m := draw.New(numbers(have, 3)), draw.New(numbers(have, 3))
			one, two := do(d), do(d)
			do(m)
			want := do(m)
			for l := one[:cap(one)]; len(l) > 0; l = l[1:] {
				l[0] = -7
			}
			if !slices.Equal(two, want) || !slices.Equal(do(d), do(m)) {
				t.Errorf("a result of %s with %d numbers shares memory", call, have)
			}
		}
	}
}

// R4: two streams of one list share nothing.
func TestApart(t *testing.T) {
	l := numbers(40, 12)
	one, two := draw.New(l), draw.New(l)
	m := &told{l: l}
	one.Order(20)
	one.Below(9)
	if two.Taken() != 0 || two.Left() != 40 {
		t.Fatalf("Taken %d, Left %d of the other stream", two.Taken(), two.Left())
	}
	if got, want := two.Order(30), m.order(30); !slices.Equal(got, want) {
		t.Errorf("Order(30) of the other stream = %d, want %d", got, want)
	}
	if one.Taken() != 20 || one.Left() != 20 {
		t.Errorf("Taken %d, Left %d of the one stream", one.Taken(), one.Left())
	}
}
