package doubt_test

import (
	"math"
	"math/big"
	"slices"
	"testing"

	"sodality/api"
	"sodality/doubt"
)

// The numbers of the chapter: the longest suspicion, and the most confirmations that are wanted.
const (
	longest  = 1 << 18
	witness  = 8
	errArg   = api.Errno(2)
	noErrors = api.Errno(0)
)

// scale is the chapter's scale.
func scale() []int {
	return []int{0, 0, 1000, 1585, 2000, 2322, 2585, 2807, 3000, 3170}
}

// ints is numbers of any kind: small ones, those around the limits, and where integers of any width end.
func ints() []int {
	l := []int{math.MinInt, math.MinInt + 1, math.MinInt32, -longest, math.MaxInt32, 1 << 32, 1<<32 + 3, -1 << 32, 1 << 62, math.MaxInt - 1, math.MaxInt, 50, 255, 256, longest - 1, longest, longest + 1}
	for n := -9; n <= 12; n++ {
		l = append(l, n)
	}
	return l
}

// right is what P11.1 says of the numbers of a suspicion.
func right(least, most, want int) bool {
	return least >= 1 && most >= least && most <= longest && want >= 0 && want <= witness
}

// lasts is what P11.1 says of Wait, with numbers of any size.
func lasts(least, most, want, have int) int {
	if !right(least, most, want) {
		return 0
	}
	if want == 0 {
		return least
	}
	c := have
	if c < 0 {
		c = 0
	}
	if c > want {
		c = want
	}
	part := big.NewInt(int64(most - least))
	part.Mul(part, big.NewInt(int64(scale()[c+1])))
	part.Quo(part, big.NewInt(int64(scale()[want+1])))
	return most - int(part.Int64())
}

// chance is numbers that follow from a seed.
type chance uint64

// below is the next number, from 0 to n-1.
func (c *chance) below(n int) int {
	*c = *c*6364136223846793005 + 1442695040888963407
	return int(uint64(*c)>>33) % n
}

// told is a suspicion by the words of the chapter: its numbers, who reported it, who has confirmed it, and its ticks.
type told struct {
	least, most, want, from int
	heard                   []int
	ticks                   int
}

// confirm is what P11.3 says of Confirm.
func (m *told) confirm(from int) bool {
	if from == m.from || slices.Contains(m.heard, from) || len(m.heard) >= m.want {
		return false
	}
	m.heard = append(m.heard, from)
	return true
}

// wait is what P11.4 says of Wait.
func (m *told) wait() int {
	return lasts(m.least, m.most, m.want, len(m.heard))
}

// due is what P11.4 says of Due.
func (m *told) due() bool {
	return m.ticks >= m.wait()
}

// both is a new suspicion, and one by the chapter's words.
func both(t *testing.T, least, most, want, from int) (*doubt.Doubt, *told) {
	t.Helper()
	d, err := doubt.New(least, most, want, from)
	if d == nil || err != noErrors {
		t.Fatalf("New(%d, %d, %d, %d) = %v, %d", least, most, want, from, d, err)
	}
	m := &told{least: least, most: most, want: want, from: from}
	agree(t, d, m)
	return d, m
}

// agree fails where a suspicion tells something else than the chapter's words.
func agree(t *testing.T, d *doubt.Doubt, m *told) {
	t.Helper()
	if got := d.Have(); got != len(m.heard) {
		t.Fatalf("Have = %d, want %d, of %+v", got, len(m.heard), *m)
	}
	if got := d.Elapsed(); got != m.ticks {
		t.Fatalf("Elapsed = %d, want %d, of %+v", got, m.ticks, *m)
	}
	if got := d.Wait(); got != m.wait() {
		t.Fatalf("Wait = %d, want %d, of %+v", got, m.wait(), *m)
	}
	if got := d.Due(); got != m.due() {
		t.Fatalf("Due = %t, want %t, of %+v", got, m.due(), *m)
	}
}

// confirmBoth confirms both, which must answer the same.
func confirmBoth(t *testing.T, d *doubt.Doubt, m *told, from int) bool {
	t.Helper()
	before := *m
	got := d.Confirm(from)
	if want := m.confirm(from); got != want {
		t.Fatalf("Confirm(%d) = %t, want %t, of %+v", from, got, want, before)
	}
	agree(t, d, m)
	return got
}

// tickBoth lets a tick go by for both, which must answer the same.
func tickBoth(t *testing.T, d *doubt.Doubt, m *told) bool {
	t.Helper()
	m.ticks++
	got := d.Tick()
	if want := m.due(); got != want {
		t.Fatalf("Tick = %t, want %t, of %+v", got, want, *m)
	}
	agree(t, d, m)
	return got
}

// The chapter's examples.
func TestExamples(t *testing.T) {
	for _, x := range [][5]int{{10, 50, 3, 0, 50}, {10, 50, 3, 1, 30}, {10, 50, 3, 3, 10}, {10, 50, 0, 0, 10}, {10, 10, 3, 9, 10}, {10, 50, 3, 9, 10}, {10, 5, 3, 0, 0}} {
		if got := doubt.Wait(x[0], x[1], x[2], x[3]); got != x[4] {
			t.Errorf("Wait(%d, %d, %d, %d) = %d, want %d", x[0], x[1], x[2], x[3], got, x[4])
		}
	}
	d, err := doubt.New(2, 4, 1, 7)
	if err != noErrors {
		t.Fatalf("New(2, 4, 1, 7): %d", err)
	}
	if d.Confirm(7) || d.Tick() || d.Tick() || !d.Confirm(5) || !d.Due() || d.Confirm(6) {
		t.Error("a suspicion: not as the examples have it")
	}
}

// P11.1: the bounds of the numbers: on the one side of each there is a time to wait, on the other one there is none.
func TestP111Bounds(t *testing.T) {
	for _, x := range [][4]int{{1, 1, 0, 1}, {0, 1, 0, 0}, {-1, 1, 0, 0}, {5, 5, 3, 5}, {5, 4, 3, 0}, {6, 5, 3, 0}, {longest, longest, 8, longest}, {1, longest, 8, longest}, {1, longest + 1, 8, 0}, {longest + 1, longest + 1, 8, 0}, {longest, longest + 1, 0, 0}, {2, 9, 0, 2}, {2, 9, 1, 9}, {2, 9, -1, 0}, {2, 9, 8, 9}, {2, 9, 9, 0}, {2, 9, 10, 0}, {-5, -3, 2, 0}, {0, 0, 0, 0}} {
		if got := doubt.Wait(x[0], x[1], x[2], 0); got != x[3] {
			t.Errorf("Wait(%d, %d, %d, 0) = %d, want %d", x[0], x[1], x[2], got, x[3])
		}
	}
}

// P11.1: any numbers in any place, where integers end too.
func TestP111Ints(t *testing.T) {
	for _, least := range ints() {
		for _, most := range ints() {
			for _, want := range ints() {
				for _, have := range ints() {
					if got, w := doubt.Wait(least, most, want, have), lasts(least, most, want, have); got != w {
						t.Fatalf("Wait(%d, %d, %d, %d) = %d, want %d", least, most, want, have, got, w)
					}
				}
			}
		}
	}
}

// P11.1: each number of the scale, where the division has no rest.
func TestP111Scale(t *testing.T) {
	s := scale()
	for want := 1; want <= witness; want++ {
		for have := 0; have <= want; have++ {
			for _, least := range []int{1, 7, 100, longest - 9*s[want+1]} {
				for _, k := range []int{1, 2, 9} {
					most := least + k*s[want+1]
					if got := doubt.Wait(least, most, want, have); got != most-k*s[have+1] {
						t.Errorf("Wait(%d, %d, %d, %d) = %d, want %d", least, most, want, have, got, most-k*s[have+1])
					}
				}
			}
		}
	}
}

// P11.1: the scale is a thousand times the logarithm to the base of two, to the nearest number.
func TestP111Logarithm(t *testing.T) {
	for have := range witness + 1 {
		want := 3171 - int(math.Round(1000*math.Log2(float64(have+1))))
		if got := doubt.Wait(1, 3171, witness, have); got != want {
			t.Errorf("Wait(1, 3171, 8, %d) = %d, want %d", have, got, want)
		}
	}
}

// P11.1: the rest of the division is left out ahead of the subtraction, so that what is waited is never too short.
func TestP111Truncated(t *testing.T) {
	for _, x := range [][5]int{{1, 2, 2, 1, 2}, {1, 2, 2, 2, 1}, {1, 2, 8, 7, 2}, {10, 50, 3, 2, 19}, {10, 50, 2, 1, 25}, {10, 50, 8, 1, 38}, {10, 50, 8, 4, 21}, {10, 50, 8, 7, 13}, {1, longest, 8, 7, 14060}, {1, longest, 2, 1, 96755}} {
		if got := doubt.Wait(x[0], x[1], x[2], x[3]); got != x[4] {
			t.Errorf("Wait(%d, %d, %d, %d) = %d, want %d", x[0], x[1], x[2], x[3], got, x[4])
		}
	}
}

// P11.1: all short suspicions.
func TestP111Short(t *testing.T) {
	for least := -1; least <= 40; least++ {
		for most := -1; most <= 60; most++ {
			for want := -1; want <= witness+1; want++ {
				for have := -1; have <= witness+1; have++ {
					if got, w := doubt.Wait(least, most, want, have), lasts(least, most, want, have); got != w {
						t.Fatalf("Wait(%d, %d, %d, %d) = %d, want %d", least, most, want, have, got, w)
					}
				}
			}
		}
	}
}

// P11.1: long suspicions, any of them.
func TestP111Long(t *testing.T) {
	c := chance(1)
	for range 100000 {
		least := 1 + c.below(longest)
		most := least + c.below(longest-least+2)
		want, have := c.below(witness+2), c.below(witness+4)-1
		if got, w := doubt.Wait(least, most, want, have), lasts(least, most, want, have); got != w {
			t.Fatalf("Wait(%d, %d, %d, %d) = %d, want %d", least, most, want, have, got, w)
		}
	}
}

// P11.1: fewer confirmations than none count as none, and more than are wanted as those that are.
func TestP111Clamped(t *testing.T) {
	for want := range witness + 1 {
		none, all := doubt.Wait(10, 1000, want, 0), doubt.Wait(10, 1000, want, want)
		for _, n := range ints() {
			if got := doubt.Wait(10, 1000, want, n); n < 0 && got != none || n > want && got != all {
				t.Errorf("Wait(10, 1000, %d, %d) = %d; it is %d with none, and %d with all", want, n, got, none, all)
			}
		}
	}
}

// P11.2: New of any numbers: a suspicion where there is a time to wait, an error where there is none.
func TestP112Any(t *testing.T) {
	for _, least := range ints() {
		for _, most := range ints() {
			for _, want := range ints() {
				for _, from := range []int{-1, 0, 3, math.MinInt, math.MaxInt} {
					if right(least, most, want) {
						both(t, least, most, want, from)
					} else if d, err := doubt.New(least, most, want, from); d != nil || err != errArg {
						t.Fatalf("New(%d, %d, %d, %d) = %v, %d, want none, %d", least, most, want, from, d, err, errArg)
					}
				}
			}
		}
	}
}

// P11.2: a new suspicion has no confirmations and no ticks, and is not due, whoever reported it.
func TestP112New(t *testing.T) {
	for _, from := range ints() {
		for want := range witness + 1 {
			d, err := doubt.New(3, 90, want, from)
			if err != noErrors {
				t.Fatalf("New(3, 90, %d, %d): %d", want, from, err)
			}
			lasting := 90
			if want == 0 {
				lasting = 3
			}
			if d.Have() != 0 || d.Elapsed() != 0 || d.Wait() != lasting || d.Due() {
				t.Errorf("New(3, 90, %d, %d) has %d confirmations and %d ticks, waits for %d, and Due is %t", want, from, d.Have(), d.Elapsed(), d.Wait(), d.Due())
			}
		}
	}
}

// P11.3: who reported the suspicion never confirms it, all others can, whatever their numbers.
func TestP113Reporter(t *testing.T) {
	for _, from := range ints() {
		for _, other := range ints() {
			d, m := both(t, 5, 100, 2, from)
			if got := confirmBoth(t, d, m, other); got != (other != from) {
				t.Fatalf("reported by %d, Confirm(%d) = %t", from, other, got)
			}
			if confirmBoth(t, d, m, from) || d.Have() != len(m.heard) {
				t.Fatalf("reported by %d, Confirm of it = true behind %d", from, other)
			}
		}
	}
}

// P11.3: each node confirms once, the first time.
func TestP113Once(t *testing.T) {
	d, m := both(t, 5, 100, witness, 3)
	for i, from := range []int{0, 7, -4, math.MaxInt, 1 << 32, math.MinInt, 2} {
		if !confirmBoth(t, d, m, from) || d.Have() != i+1 {
			t.Fatalf("Confirm(%d) = false, or Have = %d", from, d.Have())
		}
		for _, again := range append(m.heard, 3) {
			if confirmBoth(t, d, m, again) || d.Have() != i+1 {
				t.Fatalf("Confirm(%d) once more = true, or Have = %d", again, d.Have())
			}
		}
	}
}

// P11.3: as many as are wanted confirm, and no one beyond that.
func TestP113Full(t *testing.T) {
	for want := range witness + 1 {
		d, m := both(t, 5, 100, want, 100)
		for from := range 20 {
			if got := confirmBoth(t, d, m, from); got != (from < want) {
				t.Errorf("of %d that are wanted Confirm %d = %t", want, from, got)
			}
		}
		for _, from := range ints() {
			if confirmBoth(t, d, m, from) {
				t.Errorf("with all %d confirmations Confirm(%d) = true", want, from)
			}
		}
		if d.Have() != want || d.Wait() != 5 {
			t.Errorf("Have = %d, Wait = %d, want %d, 5", d.Have(), d.Wait(), want)
		}
	}
}

// P11.3: all confirmations of a few nodes, in every order, with ticks between them.
func TestP113Orders(t *testing.T) {
	const nodes, calls = 5, 5
	all := 1
	for range calls {
		all *= nodes
	}
	for want := range nodes {
		for order := range all {
			d, m := both(t, 2, 9, want, 2)
			n := order
			for range calls {
				confirmBoth(t, d, m, n%nodes)
				tickBoth(t, d, m)
				n /= nodes
			}
		}
	}
}

// P11.3: a suspicion that is due is confirmed like any other one.
func TestP113Due(t *testing.T) {
	d, m := both(t, 1, 4, 2, 0)
	for range 6 {
		tickBoth(t, d, m)
	}
	if !d.Due() || confirmBoth(t, d, m, 0) || !confirmBoth(t, d, m, 1) || confirmBoth(t, d, m, 1) || !confirmBoth(t, d, m, 2) || confirmBoth(t, d, m, 3) {
		t.Error("a suspicion that is due is confirmed in another way")
	}
}

// P11.4: a suspicion is due at the very tick for which it waits, with each number of confirmations, and Tick says so as Due does.
func TestP114Due(t *testing.T) {
	for want := range witness + 1 {
		for have := 0; have <= want; have++ {
			d, m := both(t, 3, 60, want, 100)
			for from := range have {
				confirmBoth(t, d, m, from)
			}
			end := lasts(3, 60, want, have)
			if d.Have() != have || d.Wait() != end {
				t.Fatalf("Have = %d, Wait = %d, want %d, %d", d.Have(), d.Wait(), have, end)
			}
			for n := 1; n <= end+5; n++ {
				if got := tickBoth(t, d, m); got != (n >= end) || d.Elapsed() != n {
					t.Fatalf("Tick %d of %d = %t, and Elapsed = %d", n, end, got, d.Elapsed())
				}
			}
		}
	}
}

// P11.4: the shortest suspicion and the longest one.
func TestP114Ends(t *testing.T) {
	d, m := both(t, 1, 1, 8, 0)
	if !tickBoth(t, d, m) {
		t.Error("the shortest suspicion is not due at the first tick")
	}
	for _, want := range []int{0, 1, witness} {
		d, _ = both(t, longest, longest, want, 0)
		for n := 1; n < longest; n++ {
			if d.Tick() {
				t.Fatalf("the longest suspicion is due at tick %d", n)
			}
		}
		if d.Due() || !d.Tick() || d.Elapsed() != longest {
			t.Errorf("the longest suspicion is not due at tick %d", d.Elapsed())
		}
	}
}

// P11.4: a confirmation makes a suspicion due at once if it has lasted long enough for that, and not if a tick is missing.
func TestP114Confirmed(t *testing.T) {
	for _, ticks := range []int{29, 30, 31} {
		d, m := both(t, 10, 50, 3, 6)
		for range ticks {
			if tickBoth(t, d, m) {
				t.Fatalf("due at tick %d", d.Elapsed())
			}
		}
		confirmBoth(t, d, m, 6)
		if d.Due() {
			t.Errorf("due at tick %d by a confirmation that is none", ticks)
		}
		confirmBoth(t, d, m, 1)
		if d.Due() != (ticks >= 30) || d.Elapsed() != ticks || d.Wait() != 30 {
			t.Errorf("with a confirmation at tick %d Due = %t, Elapsed = %d, Wait = %d", ticks, d.Due(), d.Elapsed(), d.Wait())
		}
	}
}

// P11.4: asking changes nothing.
func TestP114Asking(t *testing.T) {
	c := chance(2)
	d, m := both(t, 4, 40, 5, 1)
	for range 200 {
		for range 3 {
			agree(t, d, m)
			doubt.Wait(4, 40, 5, c.below(9))
		}
		if c.below(4) == 0 {
			confirmBoth(t, d, m, c.below(4))
		} else {
			tickBoth(t, d, m)
		}
	}
}

// P11.5: a suspicion that is not there, or that New did not make, does nothing.
func TestP115NoDoubt(t *testing.T) {
	wrong, _ := doubt.New(0, 5, 3, 1)
	for _, d := range []*doubt.Doubt{nil, {}, new(doubt.Doubt), wrong} {
		for range 3 {
			for _, from := range ints() {
				if d.Confirm(from) {
					t.Fatalf("Confirm(%d) = true", from)
				}
				if d.Tick() {
					t.Fatal("Tick = true")
				}
				if d.Have() != 0 || d.Elapsed() != 0 || d.Wait() != 0 || d.Due() {
					t.Fatalf("Have = %d, Elapsed = %d, Wait = %d, Due = %t", d.Have(), d.Elapsed(), d.Wait(), d.Due())
				}
			}
		}
	}
}

// P11.6: what is waited is from least to most: most without confirmations, least with all, and not longer with one more.
func TestP116Between(t *testing.T) {
	c := chance(3)
	for range 20000 {
		least := 1 + c.below(1<<(1+c.below(18)))
		most := least + c.below(longest-least+1)
		want := c.below(witness + 1)
		before := most
		for have := -1; have <= witness+1; have++ {
			w := doubt.Wait(least, most, want, have)
			if w < least || w > most || w > before {
				t.Fatalf("Wait(%d, %d, %d, %d) = %d, behind %d", least, most, want, have, w, before)
			}
			if want > 0 && have <= 0 && w != most || have >= want && w != least {
				t.Fatalf("Wait(%d, %d, %d, %d) = %d", least, most, want, have, w)
			}
			before = w
		}
	}
}

// P11.6: what is waited never rises, and a suspicion that is due remains due, through any calls.
func TestP116Remains(t *testing.T) {
	c := chance(4)
	for range 2000 {
		least := 1 + c.below(30)
		most := least + c.below(40)
		d, err := doubt.New(least, most, c.below(witness+1), c.below(10))
		if err != noErrors {
			t.Fatal(err)
		}
		due, wait := false, d.Wait()
		for range 100 {
			if c.below(5) == 0 {
				d.Confirm(c.below(10))
			} else {
				d.Tick()
			}
			if due && !d.Due() || d.Wait() > wait || d.Wait() < least || d.Due() && d.Elapsed() < least || !d.Due() && d.Elapsed() >= most {
				t.Fatalf("Due was %t and is %t, Wait was %d and is %d, at tick %d", due, d.Due(), wait, d.Wait(), d.Elapsed())
			}
			due, wait = d.Due(), d.Wait()
		}
	}
}

// P11.1 to P11.4: through any calls a suspicion does as the chapter's words have it.
func TestAny(t *testing.T) {
	c := chance(5)
	for range 2000 {
		least := 1 + c.below(20)
		d, m := both(t, least, least+c.below(50), c.below(witness+1), ints()[c.below(len(ints()))])
		for range 80 {
			switch c.below(6) {
			case 0:
				confirmBoth(t, d, m, c.below(12)-1)
			case 1:
				confirmBoth(t, d, m, ints()[c.below(len(ints()))])
			default:
				tickBoth(t, d, m)
			}
		}
	}
}

// R4: two suspicions share nothing.
func TestTwo(t *testing.T) {
	one, m := both(t, 3, 30, 4, 1)
	two, k := both(t, 3, 30, 4, 1)
	for from := range 6 {
		confirmBoth(t, one, m, from)
		tickBoth(t, one, m)
		agree(t, two, k)
	}
	for from := range 6 {
		confirmBoth(t, two, k, from)
		agree(t, one, m)
	}
	for range 40 {
		tickBoth(t, two, k)
		agree(t, one, m)
	}
}
