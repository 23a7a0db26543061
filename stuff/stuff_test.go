package stuff_test

import (
	"bytes"
	"slices"
	"testing"

	"tontine/api"
	"tontine/stuff"
)

// span is n bytes without a zero, no two neighbours of which are equal.
func span(n int) []byte {
	out := make([]byte, n)
	for i := range out {
		out[i] = byte(1 + i%255)
	}
	return out
}

// pairs are bytes and their encodings, written out by the chapter's words.
func pairs() []struct{ plain, coded []byte } {
	join := func(l ...[]byte) []byte { return slices.Concat(l...) }
	all := span(1000)
	return []struct{ plain, coded []byte }{
		{nil, []byte{1}},
		{[]byte{}, []byte{1}},
		{[]byte{0}, []byte{1, 1}},
		{[]byte{0, 0}, []byte{1, 1, 1}},
		{[]byte{7}, []byte{2, 7}},
		{[]byte{255}, []byte{2, 255}},
		{[]byte{0x11, 0, 0x22}, []byte{2, 0x11, 2, 0x22}},
		{[]byte{0, 0x11}, []byte{1, 2, 0x11}},
		{[]byte{0x11, 0}, []byte{2, 0x11, 1}},
		{[]byte{1, 2, 0, 0, 3}, []byte{3, 1, 2, 1, 2, 3}},
		{all[:253], join([]byte{254}, all[:253])},
		{join(all[:253], []byte{0}), join([]byte{254}, all[:253], []byte{1})},
		{join(all[:253], []byte{0, 9}), join([]byte{254}, all[:253], []byte{2, 9})},
		{all[:254], join([]byte{255}, all[:254], []byte{1})},
		{join(all[:254], []byte{0}), join([]byte{255}, all[:254], []byte{1, 1})},
		{join(all[:254], []byte{0, 0}), join([]byte{255}, all[:254], []byte{1, 1, 1})},
		{join(all[:254], []byte{0, 9}), join([]byte{255}, all[:254], []byte{1, 2, 9})},
		{all[:255], join([]byte{255}, all[:254], []byte{2}, all[254:255])},
		{join([]byte{0}, all[:254]), join([]byte{1, 255}, all[:254], []byte{1})},
		{all[:507], join([]byte{255}, all[:254], []byte{254}, all[254:507])},
		{all[:508], join([]byte{255}, all[:254], []byte{255}, all[254:508], []byte{1})},
		{all[:509], join([]byte{255}, all[:254], []byte{255}, all[254:508], []byte{2}, all[508:509])},
	}
}

// P1.1: Encode answers by the chapter's words, at its examples and at the edges of a piece.
func TestEncodePairs(t *testing.T) {
	for i, x := range pairs() {
		if out := stuff.Encode(x.plain); !bytes.Equal(out, x.coded) {
			t.Errorf("pair %d: Encode answers % x, want % x", i, out, x.coded)
		}
	}
}

// P1.1: Decode answers by the chapter's words, at its examples and at the edges of a piece.
func TestDecodePairs(t *testing.T) {
	for i, x := range pairs() {
		if out, e := stuff.Decode(x.coded); e != api.OK || !bytes.Equal(out, x.plain) {
			t.Errorf("pair %d: Decode answers % x, %d, want % x", i, out, e, x.plain)
		}
	}
}

// P1.1: what Encode answers for nothing is ErrForm, and beside it there is nothing.
func TestDecodeRefuses(t *testing.T) {
	full := append([]byte{255}, span(254)...)
	holed := slices.Clone(full)
	holed[254] = 0
	for i, b := range [][]byte{
		nil, {}, // no piece at all
		{0}, {0, 1}, {1, 0}, {2, 7, 0}, // no piece begins with a zero
		{2}, {3}, {3, 0x11}, {255}, {1, 2}, {2, 7, 3, 7}, // cut off
		full[:254], slices.Concat([]byte{1}, full[:254]),
		{2, 0}, {3, 0, 7}, {3, 7, 0}, {2, 0, 1}, {2, 7, 2, 0}, // a zero inside
		append(slices.Clone(holed), 1),
		full, slices.Concat(full, full), // nothing behind a piece of 255
		slices.Concat([]byte{2, 7}, full),
		slices.Concat(full, []byte{0}), slices.Concat(full, []byte{1, 0}),
		slices.Concat(full, []byte{2}),
	} {
		if out, e := stuff.Decode(b); e != api.ErrForm || out != nil {
			t.Errorf("input %d: Decode answers % x, %d, want nothing and ErrForm", i, out, e)
		}
	}
}

// words calls f with all byte strings over an alphabet up to a length.
func words(letters []byte, most int, f func([]byte)) {
	level := [][]byte{{}}
	for range most + 1 {
		var next [][]byte
		for _, w := range level {
			f(w)
			for _, c := range letters {
				next = append(next, append(slices.Clone(w), c))
			}
		}
		level = next
	}
}

// P1.1: Decode takes just what Encode answers. An encoding of up to 5 bytes stands for at most 4, all of them its own
// or zeros, so that all encodings over these letters are met.
func TestDecodeTakesEncodingsAlone(t *testing.T) {
	letters := []byte{0, 1, 2, 3, 4, 5, 6, 255}
	coded := map[string]string{}
	words(letters, 4, func(w []byte) { coded[string(stuff.Encode(w))] = string(w) })
	words(letters, 5, func(w []byte) {
		out, e := stuff.Decode(w)
		plain, ok := coded[string(w)]
		if ok && (e != api.OK || string(out) != plain) {
			t.Fatalf("Decode of % x answers % x, %d, want % x", w, out, e, plain)
		}
		if !ok && (e != api.ErrForm || out != nil) {
			t.Fatalf("Decode of % x answers % x, %d, want nothing and ErrForm", w, out, e)
		}
	})
}

// thereAndBack holds bytes against all of P1.2.
func thereAndBack(t *testing.T, b []byte) {
	t.Helper()
	out := stuff.Encode(b)
	if bytes.IndexByte(out, 0) >= 0 {
		t.Fatalf("Encode of %d bytes has a zero", len(b))
	}
	if most := len(b) + len(b)/254 + 1; len(out) > most {
		t.Fatalf("Encode of %d bytes has %d, more than %d", len(b), len(out), most)
	}
	if back, e := stuff.Decode(out); e != api.OK || !bytes.Equal(back, b) {
		t.Fatalf("%d bytes don't come back: %d", len(b), e)
	}
}

// P1.2: around the lengths at which a piece is full, with a zero at each place, and with none.
func TestThereAndBackAtEdges(t *testing.T) {
	for _, n := range []int{0, 1, 2, 252, 253, 254, 255, 256, 507, 508, 509, 761, 762, 763} {
		thereAndBack(t, make([]byte, n))
		thereAndBack(t, span(n))
		for i := range n {
			b := span(n)
			b[i] = 0
			thereAndBack(t, b)
		}
	}
}

// draws are n numbers that look like chance and are the same each time.
func draws(seed uint64, n int) []uint64 {
	out := make([]uint64, n)
	for i := range out {
		seed ^= seed << 13
		seed ^= seed >> 7
		seed ^= seed << 17
		out[i] = seed
	}
	return out
}

// P1.2: at bytes with many zeros, few, and hardly any.
func TestThereAndBackAtAnyBytes(t *testing.T) {
	for seed := range uint64(300) {
		rare := []uint64{2, 100, 1000}[seed%3]
		b := make([]byte, 0, 2000)
		for _, x := range draws(seed+1, int(seed*7)) {
			c := byte(1 + x>>32%255)
			if x%rare == 0 {
				c = 0
			}
			b = append(b, c)
		}
		thereAndBack(t, b)
	}
}

// P1.2 and P0: a long text, at which a way of quadratic length would not end in time.
func TestThereAndBackAtLength(t *testing.T) {
	thereAndBack(t, span(8<<20))
	thereAndBack(t, make([]byte, 8<<20))
}

// P0: both end at any bytes, and what Decode takes is what Encode answers for that.
func TestAnyBytes(t *testing.T) {
	for seed := range uint64(2000) {
		b := make([]byte, 0, 600)
		for _, x := range draws(seed+1, int(seed%600)) {
			b = append(b, byte(x>>40))
		}
		stuff.Encode(b)
		onlyIfEncoded(t, b)
	}
}

// P1.1 and P0: encodings that were cut, or had one byte changed, are taken only if they are encodings still.
func TestNearEncodings(t *testing.T) {
	for _, x := range pairs() {
		for i := range x.coded {
			onlyIfEncoded(t, x.coded[:i])
			onlyIfEncoded(t, x.coded[i:])
			for _, c := range []byte{0, 1, 2, 3, x.coded[i] - 1, x.coded[i] + 1, 253, 254, 255} {
				b := slices.Clone(x.coded)
				b[i] = c
				onlyIfEncoded(t, b)
			}
		}
	}
}

// onlyIfEncoded holds Decode to taking nothing but what Encode answers for what came of it.
func onlyIfEncoded(t *testing.T, b []byte) {
	t.Helper()
	out, e := stuff.Decode(b)
	switch {
	case e == api.OK && !bytes.Equal(stuff.Encode(out), b):
		t.Fatalf("Decode takes % x, which isn't an encoding", b)
	case e != api.OK && (e != api.ErrForm || out != nil):
		t.Fatalf("Decode of % x answers % x, %d beside it", b, out, e)
	}
}

// Rule 4: what is handed in stays as it is, and so does the room behind it; an answer is new memory.
func TestHandedInStays(t *testing.T) {
	for i, x := range pairs() {
		for _, b := range [][]byte{x.plain, x.coded} {
			room := append(slices.Clone(b), 0xAA, 0xBB, 0xCC)
			before := slices.Clone(room)
			coded := stuff.Encode(room[:len(b)])
			plain, _ := stuff.Decode(room[:len(b)])
			scratch(coded)
			scratch(plain)
			if !bytes.Equal(room, before) {
				t.Errorf("pair %d: what was handed in has changed", i)
			}
		}
	}
}

// scratch writes on all of an answer, the room behind it too.
func scratch(b []byte) {
	b = b[:cap(b)]
	for i := range b {
		b[i] ^= 0xFF
	}
}

// Rule 8: an answer hangs on the argument alone, whatever was asked ahead and whatever came of that answer.
func TestSameAgain(t *testing.T) {
	for i, x := range pairs() {
		scratch(stuff.Encode(x.plain))
		out, _ := stuff.Decode(x.coded)
		scratch(out)
		if again := stuff.Encode(x.plain); !bytes.Equal(again, x.coded) {
			t.Errorf("pair %d: Encode answers otherwise the second time", i)
		}
		if again, e := stuff.Decode(x.coded); e != api.OK || !bytes.Equal(again, x.plain) {
			t.Errorf("pair %d: Decode answers otherwise the second time", i)
		}
	}
}
