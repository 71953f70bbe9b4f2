package wheel_test

import (
	"math"
	"slices"
	"testing"

	"sodality/wheel"
)

// most is the most ticks that a timer waits, and room is how many timers there may be.
const (
	most = 262144
	room = 64
)

// told is a wheel by the words of the chapter: when each timer expires.
type told struct {
	now int
	due map[int]int
}

// set is what P6.2 says of Set.
func (m *told) set(id, ticks int) bool {
	_, is := m.due[id]
	if ticks < 1 || ticks > most || !is && len(m.due) >= room {
		return false
	}
	m.due[id] = m.now + ticks
	return true
}

// stop is what P6.2 says of Stop.
func (m *told) stop(id int) bool {
	_, is := m.due[id]
	delete(m.due, id)
	return is
}

// tick is what P6.3 says of Tick.
func (m *told) tick() []int {
	m.now++
	var l []int
	for id, due := range m.due {
		if due == m.now {
			l = append(l, id)
			delete(m.due, id)
		}
	}
	slices.Sort(l)
	return l
}

// left is what P6.4 says of Left.
func (m *told) left(id int) (int, bool) {
	due, is := m.due[id]
	if !is {
		return 0, false
	}
	return due - m.now, true
}

// next is what P6.4 says of Next.
func (m *told) next() (int, bool) {
	least, is := 0, false
	for id := range m.due {
		if left, _ := m.left(id); !is || left < least {
			least, is = left, true
		}
	}
	return least, is
}

// ids is what P6.4 says of Ids.
func (m *told) ids() []int {
	var l []int
	for id := range m.due {
		l = append(l, id)
	}
	slices.Sort(l)
	return l
}

// agree fails where a wheel tells something else than the chapter's words, of these timers too.
func agree(t *testing.T, what string, w *wheel.Wheel, m *told, ids ...int) {
	t.Helper()
	if w.Now() != m.now {
		t.Fatalf("%s: Now %d, want %d", what, w.Now(), m.now)
	}
	if got, want := w.Ids(), m.ids(); !slices.Equal(got, want) {
		t.Fatalf("%s at %d: Ids %d, want %d", what, m.now, got, want)
	}
	got, is := w.Next()
	if want, set := m.next(); got != want || is != set {
		t.Fatalf("%s at %d: Next %d, %t, want %d, %t", what, m.now, got, is, want, set)
	}
	for _, id := range append(m.ids(), ids...) {
		got, is := w.Left(id)
		if want, set := m.left(id); got != want || is != set {
			t.Fatalf("%s at %d: Left(%d) = %d, %t, want %d, %t", what, m.now, id, got, is, want, set)
		}
	}
}

// both is a wheel that New made, and one by the chapter's words, after some ticks.
func both(ticks int) (*wheel.Wheel, *told) {
	w := wheel.New()
	for range ticks {
		w.Tick()
	}
	return w, &told{now: ticks, due: map[int]int{}}
}

// tickBoth is one tick more of both, which must expire the same timers.
func tickBoth(t *testing.T, w *wheel.Wheel, m *told) []int {
	t.Helper()
	got, want := w.Tick(), m.tick()
	if !slices.Equal(got, want) {
		t.Fatalf("tick %d: %d, want %d", m.now, got, want)
	}
	return got
}

// chance is numbers that follow from a seed.
type chance uint64

// below is a number below n.
func (c *chance) below(n int) int {
	*c = *c*6364136223846793005 + 1442695040888963407
	return int(uint64(*c) >> 33 % uint64(n))
}

// wait is ticks of any length of number, a few of them that may not be.
func (c *chance) wait() int {
	return c.below(1<<c.below(20)) + c.below(3) - c.below(2)
}

// edges is waits around where a level ends, a slot of it does, or the greatest one lies; room of them.
func edges() []int {
	l := []int{1, 2, 3, 31, 32, 33, 62, 63, 64, 65, 66, 126, 127, 128, 129, 191, 192, 193}
	l = append(l, 4030, 4031, 4032, 4033, 4094, 4095, 4096, 4097, 4098, 4159, 4160, 4161)
	l = append(l, 8127, 8128, 8191, 8192, 8193, 8255, 8256, 12287, 12288, 12289, 65535, 65536, 65537)
	l = append(l, 131071, 131072, 131073, 253952, 258047, 258048, 258049, 262015, 262079, 262080, 262081)
	return append(l, 262016, 262017, 262082, 262100, 262111, 262140, 262141, 262142, 262143, 262144)
}

// The chapter's examples.
func TestExamples(t *testing.T) {
	w := wheel.New()
	if !w.Set(7, 2) || !w.Set(3, 2) || !w.Set(9, 70) {
		t.Error("Set(7, 2), Set(3, 2), Set(9, 70): false")
	}
	if l := w.Tick(); len(l) != 0 {
		t.Errorf("the first tick: %d", l)
	}
	if l := w.Tick(); !slices.Equal(l, []int{3, 7}) {
		t.Errorf("the second tick: %d", l)
	}
	if n, is := w.Left(9); n != 68 || !is {
		t.Errorf("Left(9) = %d, %t", n, is)
	}
	if !w.Stop(9) || w.Stop(9) {
		t.Error("Stop(9) twice")
	}
	if w.Set(1, 0) || w.Set(1, 262145) {
		t.Error("Set(1, 0), Set(1, 262145): true")
	}
}

// P6.1: a new wheel has no timer, and is at tick 0.
func TestP61New(t *testing.T) {
	w, m := both(0)
	agree(t, "New", w, m, 0, 1, -1, math.MinInt, math.MaxInt)
	if w.Stop(0) || w.Stop(1) {
		t.Error("Stop of a timer of a new wheel: true")
	}
	if one, two := wheel.New(), wheel.New(); one == nil || one == two {
		t.Error("New made no wheel, or one twice")
	}
}

// P6.1: Now counts the calls of Tick, whatever else is called, and through the turns of each level.
func TestP61Now(t *testing.T) {
	w := wheel.New()
	for n := range 2*most + 100 {
		if w.Now() != n {
			t.Fatalf("Now = %d after %d ticks", w.Now(), n)
		}
		w.Tick()
	}
	now := w.Now()
	w.Set(1, 5)
	w.Set(1, 0)
	w.Set(1, 9)
	w.Left(1)
	w.Next()
	w.Ids()
	w.Stop(1)
	w.Stop(2)
	if w.Now() != now {
		t.Errorf("Now = %d, want %d", w.Now(), now)
	}
}

// P6.2: ticks from 1 to the most that a timer waits are taken, others are not, and do nothing to a timer that is set.
func TestP62Ticks(t *testing.T) {
	for _, start := range []int{0, 1, 63, 100, 4096} {
		for _, ticks := range []int{1, 2, 63, 64, 65, 4095, 4096, 4097, most - 1, most} {
			w, m := both(start)
			if !w.Set(5, ticks) || !m.set(5, ticks) {
				t.Errorf("Set(5, %d) at %d: false", ticks, start)
			}
			agree(t, "Set", w, m, 4, 6)
		}
		for _, ticks := range []int{0, -1, -2, -64, math.MinInt32, math.MinInt, math.MinInt + 1, most + 1, most + 2, most + 64, 2 * most, 1 << 24, 1 << 31, 1 << 32, 1<<32 + 1, math.MaxInt - 1, math.MaxInt} {
			w, m := both(start)
			if w.Set(5, ticks) {
				t.Errorf("Set(5, %d) at %d: true", ticks, start)
			}
			agree(t, "a Set that is refused", w, m, 5)
			w.Set(5, 80)
			m.set(5, 80)
			if w.Set(5, ticks) {
				t.Errorf("Set(5, %d) again at %d: true", ticks, start)
			}
			agree(t, "a Set again that is refused", w, m, 5)
			for range 100 {
				tickBoth(t, w, m)
			}
		}
	}
}

// P6.2: any number is a timer's number.
func TestP62Numbers(t *testing.T) {
	w, m := both(0)
	ids := []int{0, 1, -1, 64, 63, 65, -64, 1 << 18, 1 << 32, -1 << 32, math.MaxInt, math.MinInt, math.MaxInt - 1, math.MinInt + 1}
	for i, id := range ids {
		if !w.Set(id, 1+i%3) || !m.set(id, 1+i%3) {
			t.Errorf("Set(%d): false", id)
		}
		agree(t, "Set", w, m, ids...)
	}
	for range 4 {
		tickBoth(t, w, m)
		agree(t, "Tick", w, m, ids...)
	}
}

// P6.2: a timer that is set again has its new ticks alone, whether they are fewer or more.
func TestP62Again(t *testing.T) {
	waits := []int{1, 2, 5, 63, 64, 65, 100, 128, 4095, 4096, 4097, 5000}
	for _, first := range waits {
		for _, second := range waits {
			for _, between := range []int{0, 1, 40, 64, 99} {
				if between >= first {
					continue
				}
				w, m := both(30)
				w.Set(2, first)
				m.set(2, first)
				for range between {
					tickBoth(t, w, m)
				}
				if !w.Set(2, second) || !m.set(2, second) {
					t.Fatalf("Set again to %d: false", second)
				}
				agree(t, "Set again", w, m)
				for range max(first, second) + 70 {
					tickBoth(t, w, m)
				}
				agree(t, "the end", w, m, 2)
			}
		}
	}
}

// full is wheels with as many timers as there may be: the even numbers from 0 on.
func full(t *testing.T) (*wheel.Wheel, *told) {
	w, m := both(0)
	for i := range room {
		if !w.Set(2*i, 10+i*150) || !m.set(2*i, 10+i*150) {
			t.Fatalf("timer %d of %d: false", i, room)
		}
		agree(t, "Set", w, m)
	}
	return w, m
}

// P6.2: a full wheel takes no other timer, whatever its ticks, but those that it has.
func TestP62Full(t *testing.T) {
	w, m := full(t)
	for _, id := range []int{1, 63, 127, 128, -2, -1, math.MinInt, math.MaxInt} {
		for _, ticks := range []int{1, 64, 4096, most, 0, -1, most + 1} {
			if w.Set(id, ticks) {
				t.Fatalf("Set(%d, %d) of a full wheel: true", id, ticks)
			}
			agree(t, "a Set of a full wheel", w, m, id)
		}
	}
	for _, id := range []int{0, 62, 126} {
		for _, ticks := range []int{1, 65, most, 0, most + 1, 7} {
			if got, want := w.Set(id, ticks), m.set(id, ticks); got != want {
				t.Fatalf("Set(%d, %d) of a timer of a full wheel: %t", id, ticks, got)
			}
			agree(t, "a Set of a timer of a full wheel", w, m)
		}
	}
}

// P6.2: a full wheel has room again where a timer is stopped, or expires, and for as many.
func TestP62Room(t *testing.T) {
	w, m := full(t)
	if w.Stop(1) || !w.Stop(60) || !m.stop(60) {
		t.Fatal("Stop(1), Stop(60) of a full wheel")
	}
	for i, id := range []int{201, 203} {
		if got := w.Set(id, 5); got != (i == 0) || got != m.set(id, 5) {
			t.Fatalf("Set(%d, 5) behind one Stop = %t", id, got)
		}
		agree(t, "Set behind Stop", w, m, 201, 203)
	}
	for id := 301; m.now < 700; {
		for range len(tickBoth(t, w, m)) {
			if !w.Set(id, 3000) || !m.set(id, 3000) {
				t.Fatalf("Set(%d) behind a timer that expired: false", id)
			}
			id += 2
		}
		if w.Set(-5, 5) {
			t.Fatalf("Set of one more at %d: true", m.now)
		}
		agree(t, "Set behind Tick", w, m, -5)
	}
}

// P6.2: Stop takes a timer from whichever slot it is in, once, and no other one.
func TestP62Stop(t *testing.T) {
	for _, wait := range edges()[:40] {
		for _, between := range []int{0, 1, 33, wait / 2, wait - 64, wait - 1} {
			if between < 0 || between >= wait {
				continue
			}
			w, m := both(11)
			for id := range 3 {
				w.Set(id, wait)
				m.set(id, wait)
			}
			for range between {
				tickBoth(t, w, m)
			}
			if !w.Stop(1) || !m.stop(1) || w.Stop(1) || w.Stop(3) {
				t.Fatalf("Stop at %d of %d ticks", between, wait)
			}
			agree(t, "Stop", w, m, 1)
			for range wait - between + 70 {
				tickBoth(t, w, m)
			}
			if w.Stop(0) || w.Stop(1) || w.Stop(2) {
				t.Fatalf("Stop behind %d ticks: true", wait)
			}
		}
	}
}

// P6.2: a timer that was stopped may be set again, and what it was set to ahead is forgotten.
func TestP62StopAndSet(t *testing.T) {
	w, m := both(5)
	for i, wait := range []int{3, 10, 64, 2, 5000, 70, 1, 4097, 3, 3} {
		if !w.Set(8, wait) || !m.set(8, wait) || !w.Stop(8) || !m.stop(8) || w.Stop(8) {
			t.Fatalf("Set and Stop %d", i)
		}
		agree(t, "Stop", w, m, 8)
		tickBoth(t, w, m)
		w.Set(8, wait+1)
		m.set(8, wait+1)
		agree(t, "Set behind Stop", w, m, 8)
	}
	for range 6000 {
		tickBoth(t, w, m)
	}
}

// P6.3: timers that expire together come rising, however they were set, and from whichever level they come.
func TestP63Rising(t *testing.T) {
	for _, due := range []int{4200, 8192, 8193, 64 * 70, 12288 + 64} {
		w, m := both(0)
		id := 0
		for m.now < due {
			if at := due - m.now; len(m.due) < room && (at < 70 || at%131 == 0) {
				id = (id*37 + 11) % 101
				w.Set(id-50, at)
				m.set(id-50, at)
			}
			if got := tickBoth(t, w, m); m.now == due && len(got) < 20 {
				t.Fatalf("tick %d expires %d timers", due, len(got))
			}
		}
		agree(t, "the end", w, m)
	}
	w := wheel.New()
	for _, id := range []int{5, math.MaxInt, -3, 0, math.MinInt, 12, -1} {
		w.Set(id, 1)
	}
	if got := w.Tick(); !slices.Equal(got, []int{math.MinInt, -3, -1, 0, 5, 12, math.MaxInt}) {
		t.Errorf("Tick = %d", got)
	}
}

// P6.3: what expires is no timer that is set any more.
func TestP63Removes(t *testing.T) {
	for _, wait := range []int{1, 2, 63, 64, 65, 4095, 4096, 4097, 4160} {
		w, m := both(0)
		w.Set(1, wait)
		m.set(1, wait)
		w.Set(2, wait+1)
		m.set(2, wait+1)
		for m.now < wait {
			agree(t, "ahead", w, m, 1, 2, 3)
			tickBoth(t, w, m)
		}
		agree(t, "behind", w, m, 1, 2, 3)
		if w.Stop(1) || !w.Stop(2) {
			t.Fatalf("Stop behind %d ticks", wait)
		}
	}
}

// P6.4: Left and Next count down to 1, tick by tick, and Next goes on with the next timer.
func TestP64Down(t *testing.T) {
	w, m := both(17)
	for _, wait := range []int{1, 4, 63, 64, 65, 130, 700, 4095, 4096, 4097, 9000} {
		w.Set(wait, wait)
		m.set(wait, wait)
	}
	for len(m.due) > 0 {
		agree(t, "Set", w, m, 0, -1, 2)
		tickBoth(t, w, m)
	}
	agree(t, "the end", w, m, 1, 4, 9000)
}

// P6.4: asking changes nothing.
func TestP64Asking(t *testing.T) {
	w, m := both(3)
	for i, wait := range edges()[:20] {
		w.Set(i, wait)
		m.set(i, wait)
	}
	for range 300 {
		for range 3 {
			agree(t, "asked again", w, m, 100)
		}
		tickBoth(t, w, m)
	}
}

// P6.5: a wheel that is not there, or that New did not make, does nothing.
func TestP65NoWheel(t *testing.T) {
	var none *wheel.Wheel
	var held struct{ w wheel.Wheel }
	var row [1]wheel.Wheel
	for i, w := range []*wheel.Wheel{none, {}, new(wheel.Wheel), &held.w, &row[0]} {
		for range 3 {
			for _, ticks := range []int{math.MinInt, -1, 0, 1, 2, 64, most, most + 1, math.MaxInt} {
				if w.Set(0, ticks) || w.Set(5, ticks) {
					t.Fatalf("wheel %d: Set(5, %d) = true", i, ticks)
				}
			}
			if l := w.Tick(); len(l) != 0 || w.Now() != 0 {
				t.Fatalf("wheel %d: Tick %d, Now %d", i, l, w.Now())
			}
			for _, id := range []int{math.MinInt, -1, 0, 5, math.MaxInt} {
				if n, is := w.Left(id); n != 0 || is || w.Stop(id) {
					t.Fatalf("wheel %d: Left(%d) = %d, %t", i, id, n, is)
				}
			}
			if n, is := w.Next(); n != 0 || is || len(w.Ids()) != 0 {
				t.Fatalf("wheel %d: Next %d, %t, Ids %d", i, n, is, w.Ids())
			}
		}
	}
}

// P6.6: a timer expires once, behind its ticks, around each edge of the levels, wherever the wheel is when it is set.
func TestP66Edges(t *testing.T) {
	starts := []int{0, 1, 2, 31, 62, 63, 64, 65, 127, 128, 4031, 4032, 4033, 4095, 4096, 4097, 4160, 8191, 8192, most - 4097, most - 64, most - 1, most, most + 1, most + 4095}
	waits := edges()
	if len(waits) != room {
		t.Fatalf("%d waits", len(waits))
	}
	for _, start := range starts {
		w, _ := both(start)
		for _, wait := range waits {
			if !w.Set(wait, wait) {
				t.Fatalf("Set(%d) at %d: false", wait, start)
			}
		}
		times := make(map[int]int)
		for n := 1; n <= most+8300; n++ {
			for _, wait := range w.Tick() {
				times[wait]++
				if n != wait {
					t.Fatalf("a timer of %d ticks, set at %d, expires behind %d", wait, start, n)
				}
			}
		}
		for _, wait := range waits {
			if times[wait] != 1 {
				t.Fatalf("a timer of %d ticks, set at %d, expires %d times", wait, start, times[wait])
			}
		}
	}
}

// P6.6: each of the lesser waits, from the lowest two levels into the third one.
func TestP66EveryWait(t *testing.T) {
	for _, start := range []int{0, 37, 4095} {
		for first := 1; first < 8400; first += room {
			w, _ := both(start)
			for i := range room {
				w.Set(first+i, first+i)
			}
			for n := 1; n < first+room+64; n++ {
				want := n >= first && n < first+room
				if got := w.Tick(); len(got) > 1 || (len(got) == 1) != want || want && got[0] != n {
					t.Fatalf("set at %d, tick %d: %d", start, n, got)
				}
			}
		}
	}
}

// P6.6: through any calls the wheel does as the chapter's words have it.
func TestP66Any(t *testing.T) {
	for seed := range 40 {
		c := chance(seed)
		w, m := both(c.below(5000))
		for range 4000 {
			id := c.below(90) - 20
			switch c.below(8) {
			case 0, 1, 2:
				wait := c.wait()
				if got, want := w.Set(id, wait), m.set(id, wait); got != want {
					t.Fatalf("seed %d: Set(%d, %d) = %t at %d", seed, id, wait, got, m.now)
				}
			case 3:
				if got, want := w.Stop(id), m.stop(id); got != want {
					t.Fatalf("seed %d: Stop(%d) = %t at %d", seed, id, got, m.now)
				}
			default:
				for range c.below(1 << c.below(7)) {
					tickBoth(t, w, m)
				}
			}
			agree(t, "any call", w, m, id)
		}
	}
}

// P6.6: the same where many turns of the highest level go by.
func TestP66Long(t *testing.T) {
	c := chance(7)
	w, m := both(0)
	for m.now < 5*most {
		tickBoth(t, w, m)
		if c.below(300) == 0 {
			id, wait := c.below(100), c.wait()
			if got, want := w.Set(id, wait), m.set(id, wait); got != want {
				t.Fatalf("Set(%d, %d) = %t at %d", id, wait, got, m.now)
			}
		}
		if c.below(5000) == 0 {
			agree(t, "long", w, m)
		}
	}
}

// P6.6: a timer expires at the same tick in a wheel of its own as beside others that are set, stopped and set again.
func TestP66Apart(t *testing.T) {
	waits := []int{1, 2, 64, 65, 100, 4095, 4096, 4200, 9000}
	among := wheel.New()
	alone := make([]*wheel.Wheel, len(waits))
	for i, wait := range waits {
		alone[i] = wheel.New()
		alone[i].Set(i, wait)
		among.Set(i, wait)
	}
	c := chance(3)
	for n := range 9100 {
		among.Set(100+c.below(40), 1+c.below(6000))
		among.Stop(100 + c.below(40))
		got := slices.DeleteFunc(among.Tick(), func(id int) bool { return id >= 100 })
		var want []int
		for _, w := range alone {
			want = append(want, w.Tick()...)
		}
		if !slices.Equal(got, want) {
			t.Fatalf("tick %d: %d among others, %d alone", n+1, got, want)
		}
	}
}

// R3: results share memory with no other result, nor with the wheel.
func TestResults(t *testing.T) {
	w, m := both(0)
	for id := range 40 {
		w.Set(id, 1+id%3*64)
		m.set(id, 1+id%3*64)
	}
	spoil := func(l []int) {
		for l = l[:cap(l)]; len(l) > 0; l = l[1:] {
			l[0] = -7
		}
	}
	var kept [][]int
	for range 300 {
		one, two := w.Ids(), w.Ids()
		spoil(one)
		if !slices.Equal(two, m.ids()) {
			t.Fatalf("two results of Ids share memory: %d", two)
		}
		got := tickBoth(t, w, m)
		kept = append(kept, slices.Clone(got))
		spoil(got)
		agree(t, "a result that was changed", w, m)
		w.Set(m.now%96, 64)
		m.set(m.now%96, 64)
		agree(t, "Set behind it", w, m)
	}
	again, _ := both(0)
	for id := range 40 {
		again.Set(id, 1+id%3*64)
	}
	results := make([][]int, 0, 300)
	for n := range 300 {
		results = append(results, again.Tick())
		again.Set((n+1)%96, 64)
	}
	for n, l := range results {
		if !slices.Equal(l, kept[n]) {
			t.Fatalf("the result of tick %d was changed later: %d, want %d", n+1, l, kept[n])
		}
	}
}

// R4: two wheels share nothing.
func TestTwo(t *testing.T) {
	one, m := both(0)
	two, n := both(0)
	for id := range 30 {
		one.Set(id, 5+id*10)
		m.set(id, 5+id*10)
	}
	agree(t, "the other wheel", two, n, 3)
	two.Set(3, 70)
	n.set(3, 70)
	agree(t, "the one wheel", one, m)
	for range 400 {
		tickBoth(t, one, m)
	}
	agree(t, "the other wheel later", two, n, 3)
	for range 80 {
		tickBoth(t, two, n)
	}
	agree(t, "the one wheel at the end", one, m)
}
