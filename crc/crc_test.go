package crc_test

import (
	"bytes"
	"hash/crc32"
	"math"
	"math/bits"
	"math/rand/v2"
	"slices"
	"testing"

	"tontine/crc"
)

// halved is the chapter's one step, by its words.
func halved(x uint32) uint32 {
	if x%2 == 1 {
		return x/2 ^ 0x82F63B78
	}
	return x / 2
}

// added is the chapter's Add, bit by bit.
func added(sum uint32, b []byte) uint32 {
	x := ^sum
	for _, c := range b {
		x ^= uint32(c)
		for range 8 {
			x = halved(x)
		}
	}
	return ^x
}

// joined is the chapter's Join, bit by bit.
func joined(a, b uint32, n int) uint32 {
	if n < 0 {
		return 0
	}
	for range n {
		for range 8 {
			a = halved(a)
		}
	}
	return a ^ b
}

// draws gives numbers that look like chance and are the same each time.
func draws(seed int) *rand.Rand { return rand.New(rand.NewPCG(uint64(seed), 2)) }

// drawn are n bytes that look like chance.
func drawn(seed, n int) []byte {
	r := draws(seed)
	out := make([]byte, n)
	for i := range out {
		out[i] = byte(r.Uint32())
	}
	return out
}

// sums are numbers of 32 bits: each bit alone, all but one, edges, and some that look like chance.
func sums() []uint32 {
	out := []uint32{0, math.MaxUint32, 0xE3069283, 0x82F63B78, 0x80000001, 0x55555555, 0xAAAAAAAA}
	for i := range 32 {
		out = append(out, 1<<i, ^uint32(1<<i))
	}
	r := draws(77)
	for range 20 {
		out = append(out, r.Uint32())
	}
	return out
}

// P2.1: the chapter's examples, those of RFC 3720, and a text of one letter.
func TestSumExamples(t *testing.T) {
	rise := make([]byte, 32)
	for i := range rise {
		rise[i] = byte(i)
	}
	fall := slices.Clone(rise)
	slices.Reverse(fall)
	for i, x := range []struct {
		b    []byte
		want uint32
	}{
		{nil, 0},
		{[]byte{}, 0},
		{[]byte("123456789"), 0xE3069283},
		{[]byte("a"), 0xC1D04330},
		{make([]byte, 32), 0x8A9136AA},
		{bytes.Repeat([]byte{255}, 32), 0x62A8AB43},
		{rise, 0x46DD794E},
		{fall, 0x113FDB5C},
	} {
		if got := crc.Sum(x.b); got != x.want {
			t.Errorf("example %d: Sum answers %08X, want %08X", i, got, x.want)
		}
	}
}

// P2.1: Sum is the chapter's words, and CRC-32C as others have it, at each byte alone, each length, and a great one.
func TestSum(t *testing.T) {
	table := crc32.MakeTable(crc32.Castagnoli)
	hold := func(b []byte) {
		t.Helper()
		if got, want := crc.Sum(b), added(0, b); got != want || got != crc32.Checksum(b, table) {
			t.Fatalf("Sum of %d bytes answers %08X, want %08X", len(b), got, want)
		}
	}
	for c := range 256 {
		hold([]byte{byte(c)})
		hold(bytes.Repeat([]byte{byte(c)}, 1+c%7))
	}
	for n := range 600 {
		hold(drawn(n+1, n))
		hold(make([]byte, n))
	}
	hold(drawn(9, 1<<20))
}

// P2.1: Add begins where its sum says, whatever number that is.
func TestAdd(t *testing.T) {
	for i, sum := range sums() {
		if got := crc.Add(sum, nil); got != sum {
			t.Errorf("Add of %08X and nothing answers %08X", sum, got)
		}
		for c := range 256 {
			b := []byte{byte(c)}
			if got, want := crc.Add(sum, b), added(sum, b); got != want {
				t.Fatalf("Add of %08X and byte %d answers %08X, want %08X", sum, c, got, want)
			}
		}
		b := drawn(i+1, i*3)
		if got, want := crc.Add(sum, b), added(sum, b); got != want {
			t.Fatalf("Add of %08X and %d bytes answers %08X, want %08X", sum, len(b), got, want)
		}
	}
}

// P2.1: a length of 0 leaves a xor b, and one below 0 leaves nothing.
func TestJoinEdges(t *testing.T) {
	for _, a := range sums() {
		for _, b := range sums() {
			if got := crc.Join(a, b, 0); got != a^b {
				t.Fatalf("Join of %08X, %08X and 0 answers %08X, want %08X", a, b, got, a^b)
			}
			for _, n := range []int{-1, -2, -8, math.MinInt32, math.MinInt + 1, math.MinInt} {
				if got := crc.Join(a, b, n); got != 0 {
					t.Fatalf("Join of %08X, %08X and %d answers %08X, want 0", a, b, n, got)
				}
			}
		}
	}
}

// P2.1: Join is the chapter's words at lengths that can be gone through bit by bit.
func TestJoin(t *testing.T) {
	for i, a := range sums() {
		for _, n := range []int{1, 2, 3, 4, 5, 7, 8, 9, 15, 16, 17, 31, 32, 33, 63, 64, 65, 100, 255, 256, 257, 1000, 4097} {
			b := uint32(i * n * 0x01234567)
			if got, want := crc.Join(a, b, n), joined(a, b, n); got != want {
				t.Fatalf("Join of %08X, %08X and %d answers %08X, want %08X", a, b, n, got, want)
			}
		}
	}
	for _, n := range []int{1<<20 - 1, 1 << 20, 3<<20 + 12345} {
		if got, want := crc.Join(0xE3069283, 5, n), joined(0xE3069283, 5, n); got != want {
			t.Fatalf("Join at %d answers %08X, want %08X", n, got, want)
		}
	}
}

// product multiplies two polynomials over bits, the highest bit of a number being its constant, and takes the rest by
// the chapter's one: a halving is a multiplication by the polynomial x.
func product(a, b uint32) uint32 {
	out := uint32(0)
	for i := range 32 {
		if b>>(31-i)&1 == 1 {
			out ^= a
		}
		a = halved(a)
	}
	return out
}

// far is joined for any length, by powers of a polynomial.
func far(a, b uint32, n int) uint32 {
	power := uint32(1) << 23 // x to the eighth: a byte
	for ; n > 0; n >>= 1 {
		if n&1 == 1 {
			a = product(a, power)
		}
		power = product(power, power)
	}
	return a ^ b
}

// lengths are great ones: around each power of two, and the greatest of all.
func lengths() []int {
	out := []int{math.MaxInt, math.MaxInt - 1, math.MaxInt / 3, math.MaxInt32, math.MaxInt32 - 1, math.MaxUint32 >> 3}
	for i := range bits.UintSize - 1 {
		out = append(out, 1<<i, 1<<i-1, 1<<i|1)
	}
	return out
}

// P2.1 and P0: Join ends, and answers by the words, at a great length, at which a way of so many steps would not end.
func TestJoinGreat(t *testing.T) {
	for _, n := range []int{0, 1, 2, 77, 1000} {
		if far(3, 5, n) != joined(3, 5, n) {
			t.Fatalf("the test's own way is wrong at %d", n)
		}
	}
	for i, a := range sums() {
		for _, n := range lengths() {
			b := uint32(i * 0x01234567)
			if got, want := crc.Join(a, b, n), far(a, b, n); got != want {
				t.Fatalf("Join of %08X, %08X and %d answers %08X, want %08X", a, b, n, got, want)
			}
		}
	}
}

// P2.2: a text that is cut in two, at any place, has the sum that Add and Join make of both halves.
func TestTwoTexts(t *testing.T) {
	for n := range 140 {
		b := drawn(n+5, n)
		want := crc.Sum(b)
		for i := range n + 1 {
			first, second := crc.Sum(b[:i]), crc.Sum(b[i:])
			if got := crc.Add(first, b[i:]); got != want {
				t.Fatalf("%d bytes cut at %d: Add answers %08X, want %08X", n, i, got, want)
			}
			if got := crc.Join(first, second, n-i); got != want {
				t.Fatalf("%d bytes cut at %d: Join answers %08X, want %08X", n, i, got, want)
			}
		}
	}
}

// P2.2: the same at a great length, and over several texts in a row.
func TestLongTexts(t *testing.T) {
	b := drawn(3, 1<<20+77)
	want := crc.Sum(b)
	for _, i := range []int{0, 1, 65536, 1 << 19, len(b) - 1, len(b)} {
		first, second := crc.Sum(b[:i]), crc.Sum(b[i:])
		if crc.Add(first, b[i:]) != want || crc.Join(first, second, len(b)-i) != want {
			t.Fatalf("%d bytes cut at %d have another sum", len(b), i)
		}
	}
	byAdd, byJoin := crc.Sum(nil), crc.Sum(nil)
	for part := range slices.Chunk(b, 4099) {
		byAdd = crc.Add(byAdd, part)
		byJoin = crc.Join(byJoin, crc.Sum(part), len(part))
	}
	if byAdd != want || byJoin != want {
		t.Fatalf("text by text: Add answers %08X, Join %08X, want %08X", byAdd, byJoin, want)
	}
}

// turn turns the bits of b that a pattern has, from a place on: a byte's lowest bit stands first.
func turn(b []byte, place int, pattern uint64) []byte {
	out := slices.Clone(b)
	for i := range 64 {
		if pattern>>i&1 == 1 {
			out[(place+i)/8] ^= 1 << ((place + i) % 8)
		}
	}
	return out
}

// P2.3: one bit that is turned, anywhere, changes the sum.
func TestOneBit(t *testing.T) {
	for _, n := range []int{1, 2, 3, 4, 5, 9, 64, 300, 2000} {
		b := drawn(n, n)
		want := crc.Sum(b)
		for place := range 8 * n {
			if crc.Sum(turn(b, place, 1)) == want {
				t.Fatalf("%d bytes: bit %d turned has the same sum", n, place)
			}
		}
	}
}

// P2.3: all bursts of up to 16 bits, at each place of a short text, and a great many of up to 32.
func TestBursts(t *testing.T) {
	b := drawn(11, 7)
	want := crc.Sum(b)
	for place := range 8*len(b) - 31 {
		for pattern := uint64(1); pattern < 1<<16; pattern += 2 {
			if crc.Sum(turn(b, place, pattern)) == want {
				t.Fatalf("burst %X at %d has the same sum", pattern, place)
			}
		}
		r := draws(place)
		for range 20000 {
			burst := uint64(r.Uint32()>>r.IntN(16) | 1)
			if crc.Sum(turn(b, place, burst)) == want {
				t.Fatalf("burst %X at %d has the same sum", burst, place)
			}
		}
	}
}

// apart tells whether no choice of some of these numbers, one at least, comes to 0 by xor.
func apart(l []uint32) bool {
	l = slices.Clone(l)
	for i := range l {
		if l[i] == 0 {
			return false
		}
		low := l[i] & -l[i]
		for k := i + 1; k < len(l); k++ {
			if l[k]&low != 0 {
				l[k] ^= l[i]
			}
		}
	}
	return true
}

// P2.3: what several bits change is the xor of what each one changes alone; so when those of 32 neighbours are apart,
// none of the bursts among them leaves the sum as it was.
func TestAllBursts(t *testing.T) {
	for _, n := range []int{4, 5, 8, 33, 300, 1500} {
		b := drawn(n, n)
		sum := crc.Sum(b)
		r := draws(n + 1)
		changes := make([]uint32, 8*n)
		for place := range changes {
			changes[place] = crc.Sum(turn(b, place, 1)) ^ sum
		}
		for place := range len(changes) - 31 {
			if !apart(changes[place : place+32]) {
				t.Fatalf("%d bytes: some burst at %d has the same sum", n, place)
			}
			burst := uint64(r.Uint32())
			together := sum
			for i := range 32 {
				if burst>>i&1 == 1 {
					together ^= changes[place+i]
				}
			}
			if got := crc.Sum(turn(b, place, burst)); got != together {
				t.Fatalf("%d bytes: burst %X at %d answers %08X, want %08X", n, burst, place, got, together)
			}
		}
	}
}

// Rule 4: what is handed in stays as it is, and so does the room behind it.
func TestHandedInStays(t *testing.T) {
	for n := range 70 {
		room := drawn(n+1, n+8)
		before := slices.Clone(room)
		crc.Sum(room[:n])
		crc.Add(0xE3069283, room[:n])
		if !bytes.Equal(room, before) {
			t.Fatalf("%d bytes: what was handed in has changed", n)
		}
	}
}

// Rule 8: an answer hangs on the arguments alone, not on what was asked ahead, nor on the room behind a list.
func TestSameAgain(t *testing.T) {
	b := drawn(21, 100)
	sum, add, join := crc.Sum(b), crc.Add(7, b), crc.Join(7, 9, 100)
	for n := range 50 {
		crc.Sum(drawn(n+1, n))
		crc.Add(uint32(n), b)
		crc.Join(uint32(n), 1, n-5)
		roomy := append(slices.Clone(b), drawn(n+1, n)...)[:len(b)]
		if crc.Sum(roomy) != sum || crc.Add(7, roomy) != add || crc.Join(7, 9, 100) != join {
			t.Fatalf("the answers differ the second time, behind %d others", n)
		}
	}
}
