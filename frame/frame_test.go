package frame_test

import (
	"bytes"
	"hash/crc32"
	"iter"
	"math"
	"math/bits"
	"slices"
	"testing"

	"sodality/api"
	"sodality/frame"
)

// checksum is the sum of bytes by the library's check, which runs over the bits the other way round.
func checksum(b []byte) uint32 {
	mirror := make([]byte, len(b))
	for i, x := range b {
		mirror[i] = bits.Reverse8(x)
	}
	return bits.Reverse32(crc32.ChecksumIEEE(mirror))
}

// coded is frames by the words of the definition, with whatever kind and body they have.
func coded(l ...api.Frame) []byte {
	out := []byte{}
	for _, f := range l {
		n := len(f.Body)
		b := append([]byte{f.Kind, byte(n / 256), byte(n % 256)}, f.Body...)
		s := checksum(b)
		out = append(out, b...)
		out = append(out, byte(s>>24), byte(s>>16), byte(s>>8), byte(s))
	}
	return out
}

// text is n bytes that follow from a seed.
func text(n int, seed uint32) []byte {
	b := make([]byte, n)
	for i := range b {
		seed = seed*1664525 + 1013904223
		b[i] = byte(seed >> 24)
	}
	return b
}

// made is a frame whose body has n bytes.
func made(kind uint8, n int) api.Frame {
	return api.Frame{Kind: kind, Body: text(n, uint32(kind)*1000+uint32(n))}
}

// many is n frames of the bodies' length.
func many(n, body int) []api.Frame {
	var l []api.Frame
	for i := range n {
		l = append(l, made(uint8(i%255+1), body))
	}
	return l
}

// same asks whether two frames are equal.
func same(a, b api.Frame) bool {
	return a.Kind == b.Kind && bytes.Equal(a.Body, b.Body)
}

// sames asks whether two lists of frames are equal.
func sames(a, b []api.Frame) bool {
	return slices.EqualFunc(a, b, same)
}

// gone is what an iterator goes over: the places and the frames.
func gone(seq iter.Seq2[int, api.Frame]) ([]int, []api.Frame) {
	var places []int
	var l []api.Frame
	for at, f := range seq {
		places = append(places, at)
		l = append(l, f)
	}
	return places, l
}

// spoilt is bytes with one of them another one.
func spoilt(b []byte, at int) []byte {
	out := slices.Clone(b)
	out[at] ^= 0x10
	return out
}

// wrong is bytes that Take rejects, and with which error: each of them behind frames, too.
func wrong() []struct {
	b   []byte
	err api.Errno
} {
	f := coded(made(7, 5))
	whole := coded(made(9, 1000))
	kindless := coded(api.Frame{Kind: 0, Body: []byte("ab")})
	tooLong := coded(api.Frame{Kind: 7, Body: text(1001, 1)})
	return []struct {
		b   []byte
		err api.Errno
	}{
		{[]byte{7}, api.ErrEnd}, {[]byte{7, 0}, api.ErrEnd}, {[]byte{0}, api.ErrEnd}, {[]byte{0, 0}, api.ErrEnd},
		{[]byte{7, 255}, api.ErrEnd}, {[]byte{0, 255}, api.ErrEnd},
		{[]byte{0, 0, 0}, api.ErrKind}, {[]byte{0, 0, 0, 0, 0, 0, 0}, api.ErrKind}, {[]byte{0, 255, 255}, api.ErrKind},
		{[]byte{0, 0, 9, 1}, api.ErrKind}, {[]byte{0, 3, 233}, api.ErrKind}, {kindless, api.ErrKind}, {spoilt(kindless, 4), api.ErrKind},
		{[]byte{7, 255, 255}, api.ErrLong}, {[]byte{7, 3, 233}, api.ErrLong}, {[]byte{255, 4, 0}, api.ErrLong}, {tooLong, api.ErrLong},
		{tooLong[:len(tooLong)-1], api.ErrLong}, {spoilt(tooLong, 500), api.ErrLong},
		{[]byte{7, 0, 0}, api.ErrEnd}, {[]byte{7, 3, 232}, api.ErrEnd}, {[]byte{7, 0, 0, 1, 2, 3}, api.ErrEnd}, {f[:len(f)-1], api.ErrEnd},
		{whole[:len(whole)-1], api.ErrEnd}, {spoilt(f, 4)[:len(f)-1], api.ErrEnd},
		{[]byte{7, 0, 0, 0, 0, 0, 0}, api.ErrSum}, {[]byte{1, 0, 1, 0, 0, 0, 0, 0}, api.ErrSum}, {spoilt(f, 0), api.ErrSum},
		{spoilt(f, 3), api.ErrSum}, {spoilt(f, 7), api.ErrSum}, {spoilt(f, 8), api.ErrSum}, {spoilt(f, 11), api.ErrSum},
		{spoilt(whole, 500), api.ErrSum}, {append(spoilt(f, 5), f...), api.ErrSum},
	}
}

// The chapter's examples.
func TestExamples(t *testing.T) {
	b, err := frame.Put(nil, api.Frame{Kind: 7, Body: []byte{0x41, 0x42}})
	if err != api.OK || !bytes.Equal(b, []byte{7, 0, 2, 0x41, 0x42, 0xee, 0xe6, 0xd0, 0xf0}) {
		t.Errorf("Put(nothing, 7 with 41 42) = % x, %d", b, err)
	}
	if frame.Size(0) != 7 || frame.Size(1000) != 1007 || frame.Size(1001) != 0 {
		t.Errorf("Size = %d, %d, %d", frame.Size(0), frame.Size(1000), frame.Size(1001))
	}
	for _, c := range []struct {
		b    []byte
		want api.Errno
	}{{[]byte{7, 0}, api.ErrEnd}, {make([]byte, 9), api.ErrKind}, {[]byte{7, 255, 255}, api.ErrLong}} {
		if _, _, err := frame.Take(c.b); err != c.want {
			t.Errorf("Take(% x): %d", c.b, err)
		}
	}
	if _, err := frame.Pack(nil); err != api.ErrFull {
		t.Errorf("Pack(no frames): %d", err)
	}
	if _, err := frame.Unpack(nil); err != api.ErrFull {
		t.Errorf("Unpack(no bytes): %d", err)
	}
}

// P3.1: Put lays each kind, and bodies up to the greatest, behind any bytes.
func TestP31Put(t *testing.T) {
	for _, before := range [][]byte{nil, {}, {0}, text(3, 1), coded(made(5, 4)), bytes.Repeat([]byte{255}, 2000)} {
		for kind := 1; kind <= 255; kind++ {
			for _, n := range []int{0, 1, 3, 255, 256, 257, 999, 1000} {
				if n > 1 && kind%85 > 1 {
					continue
				}
				f := made(uint8(kind), n)
				got, err := frame.Put(before, f)
				if want := slices.Concat(before, coded(f)); err != api.OK || !bytes.Equal(got, want) {
					t.Fatalf("Put(%d bytes, kind %d with %d bytes): %d bytes, %d", len(before), kind, n, len(got), err)
				}
			}
		}
	}
	for n := range 1001 {
		if got, err := frame.Put(nil, made(200, n)); err != api.OK || !bytes.Equal(got, coded(made(200, n))) {
			t.Fatalf("Put of %d bytes: %d bytes, %d", n, len(got), err)
		}
	}
}

// P3.1: the kind's error comes before the body's, and no bytes come with an error.
func TestP31PutErrors(t *testing.T) {
	for _, before := range [][]byte{nil, text(3, 1), coded(made(5, 4))} {
		for _, c := range []struct {
			kind uint8
			n    int
			want api.Errno
		}{
			{0, 0, api.ErrArg}, {0, 9, api.ErrArg}, {0, 1000, api.ErrArg}, {0, 1001, api.ErrArg}, {0, 1 << 17, api.ErrArg},
			{1, 1001, api.ErrLong}, {255, 1001, api.ErrLong}, {7, 1 << 16, api.ErrLong}, {7, 1<<16 + 5, api.ErrLong}, {7, 1 << 20, api.ErrLong},
		} {
			if b, err := frame.Put(before, api.Frame{Kind: c.kind, Body: make([]byte, c.n)}); err != c.want || len(b) != 0 {
				t.Errorf("Put(kind %d with %d bytes): %d bytes, %d, want %d", c.kind, c.n, len(b), err, c.want)
			}
		}
	}
}

// P3.1: Size is the length of what Put lays, and 0 where there is none.
func TestP31Size(t *testing.T) {
	for n := range 1001 {
		if got := frame.Size(n); got != n+7 || got != len(coded(made(1, n))) {
			t.Fatalf("Size(%d) = %d", n, got)
		}
	}
	for _, n := range []int{-1, -2, -7, -8, -1000, math.MinInt, math.MinInt + 7, 1001, 1002, 1 << 16, 1<<16 + 5, math.MaxInt32, math.MaxInt - 7, math.MaxInt - 6, math.MaxInt} {
		if got := frame.Size(n); got != 0 {
			t.Errorf("Size(%d) = %d", n, got)
		}
	}
}

// P3.2: Take reads what is laid, whatever lies behind it.
func TestP32Take(t *testing.T) {
	for _, behind := range [][]byte{nil, {0}, {7, 255, 255}, coded(made(3, 2)), text(2000, 4)} {
		for _, kind := range []uint8{1, 2, 7, 127, 128, 255} {
			for _, n := range []int{0, 1, 2, 4, 255, 256, 257, 511, 999, 1000} {
				f := made(kind, n)
				got, size, err := frame.Take(append(coded(f), behind...))
				if err != api.OK || size != n+7 || !same(got, f) {
					t.Fatalf("Take of kind %d with %d bytes: kind %d with %d bytes, %d, %d", kind, n, got.Kind, len(got.Body), size, err)
				}
			}
		}
	}
}

// P3.2: the first error in the chapter's order, and nothing with it.
func TestP32TakeErrors(t *testing.T) {
	for _, c := range append(wrong(), struct {
		b   []byte
		err api.Errno
	}{nil, api.ErrEnd}) {
		f, n, err := frame.Take(c.b)
		if err != c.err || n != 0 || f.Kind != 0 || len(f.Body) != 0 {
			t.Errorf("Take of %d bytes % x: %d with %d bytes, %d, %d, want %d", len(c.b), c.b[:min(len(c.b), 12)], f.Kind, len(f.Body), n, err, c.err)
		}
	}
}

// taken is what P3.2 says of Take, word by word.
func taken(b []byte) (api.Frame, int, api.Errno) {
	if len(b) < 3 {
		return api.Frame{}, 0, api.ErrEnd
	}
	if b[0] == 0 {
		return api.Frame{}, 0, api.ErrKind
	}
	n := int(b[1])*256 + int(b[2])
	if n > 1000 {
		return api.Frame{}, 0, api.ErrLong
	}
	if len(b) < n+7 {
		return api.Frame{}, 0, api.ErrEnd
	}
	f := api.Frame{Kind: b[0], Body: b[3 : 3+n]}
	if !bytes.Equal(coded(f), b[:n+7]) {
		return api.Frame{}, 0, api.ErrSum
	}
	return f, n + 7, api.OK
}

// P3.2: any three bytes at the start, with the right sum behind them, a wrong one, or less.
func TestP32AnyHead(t *testing.T) {
	for _, kind := range []byte{0, 1, 255} {
		for high := range 256 {
			for _, low := range []int{0, 1, 2, 127, 128, 231, 232, 233, 255} {
				n := high*256 + low
				if high > 8 && high%64 != 0 && high != 255 {
					continue
				}
				f := coded(api.Frame{Kind: kind, Body: text(n, 5)})
				for _, b := range [][]byte{f, f[:len(f)-1], f[:3], spoilt(f, len(f)-1), append(slices.Clone(f), 0)} {
					_, wantSize, want := taken(b)
					if got, size, err := frame.Take(b); err != want || size != wantSize || err == api.OK && !bytes.Equal(got.Body, text(n, 5)) {
						t.Fatalf("Take of %d bytes % x ..: %d, %d, want %d, %d", len(b), b[:3], size, err, wantSize, want)
					}
				}
			}
		}
	}
}

// P3.3: Each goes over all frames with their places, and End is behind the last one.
func TestP33Each(t *testing.T) {
	for _, l := range [][]api.Frame{nil, {made(1, 0)}, {made(255, 1000)}, {made(1, 0), made(2, 1), made(3, 300), made(1, 0)}, many(33, 0), many(300, 3), many(5, 1000)} {
		b := coded(l...)
		var want []int
		at := 0
		for _, f := range l {
			want = append(want, at)
			at += len(f.Body) + 7
		}
		places, got := gone(frame.Each(b))
		if !slices.Equal(places, want) || !sames(got, l) {
			t.Errorf("Each of %d frames: %d frames at %d", len(l), len(got), places)
		}
		if end, err := frame.End(b); end != len(b) || err != api.OK {
			t.Errorf("End of %d frames in %d bytes: %d, %d", len(l), len(b), end, err)
		}
	}
}

// P3.3: what Take rejects ends it, at whatever place, and whatever comes behind.
func TestP33Rejected(t *testing.T) {
	for _, l := range [][]api.Frame{nil, {made(1, 0)}, {made(2, 1), made(3, 300)}, many(40, 2)} {
		for _, c := range wrong() {
			b := append(coded(l...), c.b...)
			if _, got := gone(frame.Each(b)); !sames(got, l) {
				t.Errorf("Each of %d frames and % x ..: %d frames", len(l), c.b[:min(len(c.b), 12)], len(got))
			}
			if end, err := frame.End(b); end != len(b)-len(c.b) || err != c.err {
				t.Errorf("End of %d frames and % x ..: %d, %d", len(l), c.b[:min(len(c.b), 12)], end, err)
			}
		}
	}
	f := coded(made(7, 5))
	b := slices.Concat(f, spoilt(f, 4), f, f)
	if _, got := gone(frame.Each(b)); len(got) != 1 {
		t.Errorf("Each goes over %d frames of which the second one is wrong", len(got))
	}
	if end, err := frame.End(b); end != len(f) || err != api.ErrSum {
		t.Errorf("End of frames of which the second one is wrong: %d, %d", end, err)
	}
}

// P3.3: whoever goes over frames may stop, and begin anew.
func TestP33Stop(t *testing.T) {
	l := many(6, 4)
	seq := frame.Each(coded(l...))
	for n := 1; n <= len(l); n++ {
		var got []api.Frame
		for _, f := range seq {
			got = append(got, f)
			if len(got) == n {
				break
			}
		}
		if !sames(got, l[:n]) {
			t.Errorf("Each up to frame %d: %d frames", n, len(got))
		}
	}
	for at := range seq {
		if places, got := gone(seq); !sames(got, l) || places[0] != 0 {
			t.Errorf("Each within Each at %d: %d frames from %d on", at, len(got), places)
		}
	}
}

// P3.3: Each keeps to what the bytes were at its call.
func TestP33AtTheCall(t *testing.T) {
	l := many(5, 6)
	b := coded(l...)
	seq := frame.Each(b)
	clear(b)
	if _, got := gone(seq); !sames(got, l) {
		t.Errorf("Each of bytes that were cleared behind it: %d frames", len(got))
	}
	b = coded(l...)
	n := 0
	for _, f := range frame.Each(b) {
		if n < len(l) && !same(f, l[n]) {
			t.Errorf("frame %d of bytes that change meanwhile is another one", n)
		}
		clear(b)
		clear(f.Body)
		n++
	}
	if n != len(l) {
		t.Errorf("Each of bytes that change meanwhile: %d frames", n)
	}
	copy(b, coded(made(9, 5)))
	late := frame.Each(make([]byte, 20))
	if _, got := gone(late); len(got) != 0 {
		t.Errorf("Each of zeros: %d frames", len(got))
	}
}

// P3.4: Pack is the frames behind one another, up to as many and as long as may be.
func TestP34Pack(t *testing.T) {
	for _, l := range [][]api.Frame{
		{made(1, 0)}, {made(255, 1000)}, {made(1, 0), made(1, 0)}, {made(2, 1), made(3, 300), made(4, 0)}, many(31, 36), many(32, 36),
		{made(1, 1000), made(2, 386)}, {made(1, 386), made(2, 1000)}, append(many(31, 36), made(5, 60)), many(7, 193), many(8, 168),
	} {
		b, err := frame.Pack(l)
		if err != api.OK || !bytes.Equal(b, coded(l...)) {
			t.Errorf("Pack of %d frames, %d bytes: %d bytes, %d", len(l), len(coded(l...)), len(b), err)
		}
		if got, err := frame.Unpack(b); err != api.OK || !sames(got, l) {
			t.Errorf("Unpack of %d frames, %d bytes: %d frames, %d", len(l), len(b), len(got), err)
		}
	}
}

// P3.4: the first frame's error comes before those of the whole, and no bytes come with an error.
func TestP34PackErrors(t *testing.T) {
	none, long := api.Frame{Body: []byte("ab")}, made(7, 1001)
	both := api.Frame{Body: long.Body}
	for i, c := range []struct {
		l    []api.Frame
		want api.Errno
	}{
		{nil, api.ErrFull}, {[]api.Frame{}, api.ErrFull}, {many(33, 0), api.ErrFull}, {many(200, 0), api.ErrFull}, {many(5000, 0), api.ErrFull},
		{[]api.Frame{made(1, 1000), made(2, 387)}, api.ErrFull}, {[]api.Frame{made(1, 1000), made(2, 1000)}, api.ErrFull},
		{append(many(31, 36), made(5, 61)), api.ErrFull}, {many(32, 37), api.ErrFull}, {many(33, 40), api.ErrFull},
		{[]api.Frame{none}, api.ErrArg}, {[]api.Frame{long}, api.ErrLong}, {[]api.Frame{both}, api.ErrArg}, {[]api.Frame{{}}, api.ErrArg},
		{[]api.Frame{long, none}, api.ErrLong}, {[]api.Frame{none, long}, api.ErrArg}, {[]api.Frame{made(1, 3), long, none}, api.ErrLong},
		{[]api.Frame{made(1, 3), none, long}, api.ErrArg}, {[]api.Frame{made(1, 3), both, long}, api.ErrArg},
		{append(many(33, 0), none), api.ErrArg}, {append(many(33, 0), long), api.ErrLong}, {append(many(2, 1000), none), api.ErrArg},
		{append(many(2, 1000), long), api.ErrLong}, {append(many(5000, 0), long, none), api.ErrLong}, {append(many(31, 0), none), api.ErrArg},
	} {
		if b, err := frame.Pack(c.l); err != c.want || len(b) != 0 {
			t.Errorf("Pack, case %d: %d bytes, %d, want %d", i, len(b), err, c.want)
		}
	}
}

// P3.4: Unpack's errors, in the chapter's order, and no frames with one.
func TestP34UnpackErrors(t *testing.T) {
	short := coded(many(32, 36)...)
	full := coded(append(many(31, 36), made(5, 60))...)
	for i, c := range []struct {
		b    []byte
		want api.Errno
	}{
		{nil, api.ErrFull}, {[]byte{}, api.ErrFull}, {append(slices.Clone(full), 7), api.ErrFull}, {make([]byte, 1401), api.ErrFull},
		{coded(many(201, 0)...), api.ErrFull}, {bytes.Repeat([]byte{7, 255}, 5000), api.ErrFull}, {coded(many(2, 1000)...), api.ErrFull},
		{make([]byte, 1400), api.ErrKind}, {bytes.Repeat([]byte{7}, 1400), api.ErrLong}, {append(slices.Clone(short), 7), api.ErrEnd},
		{coded(many(33, 0)...), api.ErrFull}, {coded(many(200, 0)...), api.ErrFull}, {coded(many(34, 30)...), api.ErrFull},
		{append(coded(many(33, 0)...), 7), api.ErrEnd}, {append(coded(many(40, 0)...), 0, 0, 0), api.ErrKind},
		{append(coded(many(33, 0)...), 7, 4, 0), api.ErrLong}, {append(coded(many(33, 0)...), 7, 0, 0, 0, 0, 0, 0), api.ErrSum},
		{spoilt(coded(many(33, 0)...), 33*7-1), api.ErrSum}, {spoilt(coded(many(33, 0)...), 32*7-1), api.ErrSum},
	} {
		if l, err := frame.Unpack(c.b); err != c.want || len(l) != 0 {
			t.Errorf("Unpack of %d bytes, case %d: %d frames, %d, want %d", len(c.b), i, len(l), err, c.want)
		}
	}
	for _, c := range wrong() {
		for n := range 4 {
			b := append(coded(many(n, 9)...), c.b...)
			if l, err := frame.Unpack(b); len(b) <= 1400 && (err != c.err || len(l) != 0) {
				t.Errorf("Unpack of %d frames and % x ..: %d frames, %d, want %d", n, c.b[:min(len(c.b), 12)], len(l), err, c.err)
			}
		}
	}
}

// P3.5: of frames that are cut off anywhere, the complete ones are there.
func TestP35Truncated(t *testing.T) {
	for _, l := range [][]api.Frame{many(8, 0), {made(1, 0), made(255, 300), made(2, 1), made(3, 4), made(9, 0)}, {made(4, 500), made(8, 600)}} {
		whole := coded(l...)
		for cut := range len(whole) + 1 {
			complete, end := 0, 0
			for complete < len(l) && end+len(l[complete].Body)+7 <= cut {
				end += len(l[complete].Body) + 7
				complete++
			}
			want := api.ErrEnd
			if end == cut {
				want = api.OK
			}
			b := whole[:cut]
			if _, got := gone(frame.Each(b)); !sames(got, l[:complete]) {
				t.Fatalf("Each of %d frames cut at %d: %d frames", len(l), cut, len(got))
			}
			if got, err := frame.End(b); got != end || err != want {
				t.Fatalf("End of %d frames cut at %d: %d, %d", len(l), cut, got, err)
			}
		}
	}
}

// P3.5: Pack and Unpack undo one another, for whatever bytes.
func TestP35ThereAndBack(t *testing.T) {
	accepted := 0
	for seed := range 600 {
		r := text(40, uint32(seed))
		var l []api.Frame
		for i := range int(r[0])%34 + 1 {
			l = append(l, api.Frame{Kind: r[i]%255 + 1, Body: text(int(r[i+1])%(3*seed%90+1), uint32(i))})
		}
		b := coded(l...)
		got, err := frame.Unpack(b)
		if len(l) <= 32 && len(b) <= 1400 && (err != api.OK || !sames(got, l)) {
			t.Fatalf("Unpack of %d frames in %d bytes: %d frames, %d", len(l), len(b), len(got), err)
		}
		for _, other := range [][]byte{b, b[:len(b)-7], append(slices.Clone(b), coded(made(3, 0))...), spoilt(b, int(r[39])%len(b)), r, b[1:]} {
			got, err := frame.Unpack(other)
			if err != api.OK {
				continue
			}
			accepted++
			if back, err := frame.Pack(got); err != api.OK || !bytes.Equal(back, other) {
				t.Fatalf("Pack of what Unpack has of %d bytes: %d bytes, %d", len(other), len(back), err)
			}
		}
	}
	if accepted < 500 {
		t.Errorf("Unpack accepted %d byte strings", accepted)
	}
}

// patterns is differences of at most 32 bits, the first one set.
func patterns() []uint32 {
	all := []uint32{1<<32 - 1, 0x04c11db7 | 1<<31, 0x82608edb, 0xaaaaaaaa, 0xff000000, 0xffff0000, 0x80000001}
	for i := range 32 {
		all = append(all, 1<<31|1<<i, ^uint32(0)<<i)
	}
	for i := range 40 {
		all = append(all, 1<<31|uint32(text(4, uint32(i))[0])<<23|uint32(i)*0x9e3779b1>>1)
	}
	return all
}

// inverted is bytes with the bits of a pattern inverted, the first one at a bit; nothing where it does not fit, or meets the length.
func inverted(b []byte, pattern uint32, bit int) []byte {
	out := slices.Clone(b)
	for i := range 32 {
		if pattern<<i>>31 == 0 {
			continue
		}
		at := (bit + i) / 8
		if at >= len(b) || at == 1 || at == 2 {
			return nil
		}
		out[at] ^= 0x80 >> ((bit + i) % 8)
	}
	return out
}

// P3.5: bits inverted within 32 are seen.
func TestP35Inverted(t *testing.T) {
	kindless, over := 0, 0
	for _, f := range []api.Frame{made(1, 0), made(128, 1), made(255, 3), made(3, 5), made(7, 9), {Kind: 16, Body: make([]byte, 6)}} {
		b := coded(f)
		for _, p := range patterns() {
			for bit := range len(b) * 8 {
				other := inverted(b, p, bit)
				if other == nil {
					continue
				}
				want := api.ErrSum
				if other[0] == 0 {
					want = api.ErrKind
					kindless++
				}
				if other[0] != b[0] && !bytes.Equal(other[3:], b[3:]) {
					over++
				}
				if got, n, err := frame.Take(append(other, b...)); err != want || n != 0 || got.Kind != 0 || len(got.Body) != 0 {
					t.Fatalf("Take(% x), of % x: %d, %d, want %d", other, b, n, err, want)
				}
			}
		}
	}
	if kindless == 0 || over == 0 {
		t.Errorf("%d inversions that make the kind 0, %d of the kind and what lies behind the length", kindless, over)
	}
}

// R1, R2: any few bytes are answered, as the chapter says.
func TestAnyBytes(t *testing.T) {
	some := []byte{0, 1, 3, 232, 255}
	level := [][]byte{nil}
	for range 5 {
		var next [][]byte
		for _, b := range level {
			_, _, want := taken(b)
			if f, n, err := frame.Take(b); err != want || n != 0 || f.Kind != 0 || len(f.Body) != 0 {
				t.Fatalf("Take(% x): %d, %d, want %d", b, n, err, want)
			}
			if end, err := frame.End(b); end != 0 || len(b) > 0 && err != want || len(b) == 0 && err != api.OK {
				t.Fatalf("End(% x): %d, %d", b, end, err)
			}
			for _, x := range some {
				next = append(next, append(slices.Clone(b), x))
			}
		}
		level = next
	}
}

// wipe overwrites bytes and their spare capacity.
func wipe(b []byte) {
	b = b[:cap(b)]
	for i := range b {
		b[i] = 0x77
	}
}

// R3: arguments stay as they are, their spare capacity too.
func TestArguments(t *testing.T) {
	l := many(3, 8)
	whole := append(coded(l...), make([]byte, 100)...)
	before := slices.Clone(whole)
	b := whole[:len(coded(l...))]
	frame.Put(b, made(9, 20))
	frame.Put(b[:4], api.Frame{Kind: 1, Body: b[:6]})
	frame.Put(b, made(0, 20))
	frame.Take(b)
	frame.Take(b[:5])
	frame.End(b)
	frame.Unpack(b)
	gone(frame.Each(b))
	body := text(20, 6)
	frames := append(many(2, 5), api.Frame{Kind: 4, Body: body[:10]}, made(8, 1))[:3]
	frame.Pack(frames)
	frame.Put(nil, frames[2])
	if !bytes.Equal(whole, before) || !bytes.Equal(body, text(20, 6)) {
		t.Error("bytes of an argument were changed")
	}
	if !sames(frames[:2], many(2, 5)) || !same(frames[:4][3], made(8, 1)) || len(frames[2].Body) != 10 {
		t.Error("a list of frames was changed")
	}
}

// R3: results share memory neither with arguments nor with one another.
func TestResults(t *testing.T) {
	l := many(4, 8)
	want := coded(l...)
	b := append(slices.Clone(want), make([]byte, 50)...)[:len(want)]
	_, each := gone(frame.Each(b))
	again, _ := frame.Unpack(b)
	one, n, _ := frame.Take(b)
	put, _ := frame.Put(b[:0], l[0])
	more, _ := frame.Put(b, l[0])
	wipe(b)
	if !sames(each, l) || !sames(again, l) || !same(one, l[0]) || !bytes.Equal(put, want[:n]) || !bytes.Equal(more, append(slices.Clone(want), put...)) {
		t.Error("a result shares memory with the bytes that were passed")
	}
	for i := range l {
		wipe(each[i].Body)
		wipe(again[i].Body)
		if !sames(each[i+1:], l[i+1:]) || !sames(again[i+1:], l[i+1:]) {
			t.Errorf("frame %d of a result shares memory with a later one", i)
		}
	}
	body := text(8, 3)
	laid, _ := frame.Put(nil, api.Frame{Kind: 3, Body: body})
	packed, _ := frame.Pack([]api.Frame{{Kind: 3, Body: body}})
	other, _ := frame.Pack([]api.Frame{{Kind: 3, Body: body}})
	wipe(body)
	wipe(packed)
	if right := coded(api.Frame{Kind: 3, Body: text(8, 3)}); !bytes.Equal(laid, right) || !bytes.Equal(other, right) {
		t.Error("a packet shares memory with a body, or with another packet")
	}
}

// R3: two passes of one iterator share nothing, and two puts behind the same bytes neither.
func TestPasses(t *testing.T) {
	l := many(4, 8)
	seq := frame.Each(coded(l...))
	_, a := gone(seq)
	for _, f := range a {
		wipe(f.Body)
	}
	if _, b := gone(seq); !sames(b, l) {
		t.Error("two passes of Each share memory")
	}
	base := append(make([]byte, 0, 4000), coded(l...)...)
	first, _ := frame.Put(base, made(1, 5))
	second, _ := frame.Put(base, made(2, 5))
	if !bytes.HasSuffix(first, coded(made(1, 5))) || !bytes.HasSuffix(second, coded(made(2, 5))) {
		t.Error("two results of Put share memory")
	}
}
