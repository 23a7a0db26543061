package quorum_test

import (
	"math"
	"math/rand/v2"
	"slices"
	"testing"

	"tontine/api"
	"tontine/quorum"
)

// every is how many sets of nodes there are, the empty one too: a set is a number below it.
const every = 128

// bitOf tells whether bit i of c is set, by dividing.
func bitOf(c uint64, i int) bool {
	for range i {
		c /= 2
	}
	return c%2 == 1
}

// membersOf are the members by the words: bits 0 to 6.
func membersOf(c uint64) []int {
	var out []int
	for i := range 7 {
		if bitOf(c, i) {
			out = append(out, i)
		}
	}
	return out
}

// soundOf: by the words.
func soundOf(c uint64) bool {
	for i := 7; i < 64; i++ {
		if bitOf(c, i) {
			return false
		}
	}
	return len(membersOf(c)) > 0
}

// needs is how many are a majority of none, one, .. and seven.
func needs(members int) int { return []int{1, 1, 2, 2, 3, 3, 4, 4}[members] }

// majorityOf: by the words, member by member.
func majorityOf(c, set uint64) bool {
	both := 0
	for _, i := range membersOf(c) {
		if bitOf(set, i) {
			both++
		}
	}
	return both >= needs(len(membersOf(c)))
}

// haveIt tells whether enough members have x or a greater number.
func haveIt(c uint64, at []uint64, x uint64) bool {
	have := 0
	for _, i := range membersOf(c) {
		if x == 0 || i < len(at) && at[i] >= x {
			have++
		}
	}
	return have >= needs(len(membersOf(c)))
}

// reachedOf: by the words: no number between two of at can be the greatest.
func reachedOf(c uint64, at []uint64) uint64 {
	greatest := uint64(0)
	for _, x := range at {
		if x > greatest && len(membersOf(c)) > 0 && haveIt(c, at, x) {
			greatest = x
		}
	}
	return greatest
}

// changeOf: by the words, as a list of members.
func changeOf(c uint64, add bool, id int) (uint64, api.Errno) {
	if !soundOf(c) || id < 0 || id > 6 {
		return 0, api.ErrArg
	}
	there := slices.Contains(membersOf(c), id)
	if add && there || !add && !there || !add && len(membersOf(c)) == 1 {
		return 0, api.ErrMember
	}
	out := uint64(0)
	for i := range 7 {
		if i == id && add || i != id && slices.Contains(membersOf(c), i) {
			out += []uint64{1, 2, 4, 8, 16, 32, 64}[i]
		}
	}
	return out, api.OK
}

// draws gives numbers that look like chance and are the same each time.
func draws(seed int) *rand.Rand { return rand.New(rand.NewPCG(uint64(seed), 6)) }

// numbers are all sets, and each of them with bits above: one, all, and some that look like chance.
func numbers() []uint64 {
	r := draws(0)
	var out []uint64
	for c := range uint64(every) {
		out = append(out, c, c+math.MaxUint64-127, c+128*(r.Uint64()>>7))
		for i := 7; i < 64; i++ {
			out = append(out, c+1<<i)
		}
	}
	return out
}

// ids are all nodes' numbers, and others: those that are one modulo a power of 2 too.
func ids() []int {
	out := []int{
		math.MinInt, math.MinInt + 1, math.MinInt32, -256, -128, -64, -63, -62, -57, math.MaxInt32, math.MaxInt32 + 1,
		math.MaxInt - 1, math.MaxInt, 1 << 32, 1<<32 + 1, 127, 128, 130, 255, 256, 257,
	}
	for id := -9; id < 72; id++ {
		out = append(out, id)
	}
	return out
}

// P6.1: Sound takes the sets of one member or more, and no number with another bit.
func TestSound(t *testing.T) {
	for c, want := range map[uint64]bool{
		0: false, 1: true, 64: true, 127: true, 128: false, 129: false, 255: false, 1 << 63: false, 1<<63 + 1: false,
		math.MaxUint64: false, math.MaxUint64 - 127: false, 256 + 7: false, 1<<32 + 1: false,
	} {
		if got := quorum.Sound(c); got != want {
			t.Errorf("Sound of %#x answers %v", c, got)
		}
	}
	for _, c := range numbers() {
		if got := quorum.Sound(c); got != soundOf(c) || got != (c > 0 && c < every) {
			t.Errorf("Sound of %#x answers %v", c, got)
		}
	}
}

// P6.1: Has knows the nodes' numbers, and no other bit; P0: at any number.
func TestHas(t *testing.T) {
	for _, c := range numbers() {
		for _, id := range ids() {
			want := id >= 0 && id <= 6 && bitOf(c, id)
			if got := quorum.Has(c, id); got != want {
				t.Fatalf("Has of %#x and %d answers %v", c, id, got)
			}
		}
	}
}

// P6.1: Members, from the least up; bits above play no part.
func TestMembers(t *testing.T) {
	if l := quorum.Members(0x25); !slices.Equal(l, []int{0, 2, 5}) {
		t.Errorf("Members of 0x25 answers %v", l)
	}
	if l := quorum.Members(math.MaxUint64); !slices.Equal(l, []int{0, 1, 2, 3, 4, 5, 6}) {
		t.Errorf("Members of all bits answers %v", l)
	}
	for _, c := range numbers() {
		if l := quorum.Members(c); !slices.Equal(l, membersOf(c)) {
			t.Errorf("Members of %#x answers %v", c, l)
		}
	}
}

// P6.1: Need, its example, of no member too; bits above play no part.
func TestNeed(t *testing.T) {
	for c, want := range map[uint64]int{0: 1, 128: 1, 1: 1, 64: 1, 65: 2, 7: 2, 15: 3, 31: 3, 63: 4, 127: 4, math.MaxUint64: 4} {
		if got := quorum.Need(c); got != want {
			t.Errorf("Need of %#x answers %d, want %d", c, got, want)
		}
	}
	for _, c := range numbers() {
		if got, want := quorum.Need(c), needs(len(membersOf(c))); got != want {
			t.Errorf("Need of %#x answers %d, want %d", c, got, want)
		}
	}
}

// P6.1: Majority of all sets, with all sets: members alone count, and nobody is a majority of none.
func TestMajority(t *testing.T) {
	for i, x := range []struct {
		c, set uint64
		want   bool
	}{
		{7, 3, true}, {7, 1, false}, {7, 0xF9, false}, {7, 0x7D, true}, {15, 3, false}, {15, 7, true}, {3, 1, false}, {3, 3, true},
		{1, 1, true}, {1, 0, false}, {1, 0xFE, false}, {0, 0, false}, {0, 127, false}, {0, math.MaxUint64, false},
		{128, math.MaxUint64, false}, {math.MaxUint64, math.MaxUint64 - 127, false}, {math.MaxUint64, 15, true}, {255, 128 + 7, false},
	} {
		if got := quorum.Majority(x.c, x.set); got != x.want {
			t.Errorf("pair %d: Majority of %#x and %#x answers %v", i, x.c, x.set, got)
		}
	}
	r := draws(1)
	for c := range uint64(every) {
		for set := range uint64(every) {
			want := majorityOf(c, set)
			high, higher := 128*(r.Uint64()>>7), 128*(r.Uint64()>>7)
			for _, x := range [][2]uint64{{c, set}, {c + 128, set + 128}, {c + high, set}, {c, set + high}, {c + high, set + high}, {c + high, set + higher}} {
				if got := quorum.Majority(x[0], x[1]); got != want {
					t.Fatalf("Majority of %#x and %#x answers %v", x[0], x[1], got)
				}
			}
		}
	}
}

// P6.1: Reached, its examples, and the edges: nobody told, some, more than there may be, the greatest numbers.
func TestReachedExamples(t *testing.T) {
	const most = math.MaxUint64
	for i, x := range []struct {
		c    uint64
		at   []uint64
		want uint64
	}{
		{7, []uint64{5, 3, 9}, 5}, {7, []uint64{5}, 0}, {7, []uint64{5, 4}, 4}, {7, nil, 0}, {7, []uint64{}, 0},
		{0, []uint64{5}, 0}, {0, []uint64{5, 5, 5, 5, 5, 5, 5, 5}, 0}, {128, []uint64{5, 5, 5, 5, 5, 5, 5, 5}, 0}, {0, nil, 0},
		{15, []uint64{4, 3, 2, 1}, 2}, {15, []uint64{1, 2, 3, 4}, 2}, {31, []uint64{1, 5, 2, 4, 3}, 3}, {3, []uint64{8, 6}, 6},
		{4, []uint64{9, 9, 7}, 7}, {64, []uint64{9, 9, 9, 9, 9, 9, 7}, 7}, {64, []uint64{9, 9, 9, 9, 9, 9}, 0},
		{5, []uint64{1, most, 3}, 1}, {5, []uint64{1, 0, 3, most, most}, 1}, {127, []uint64{1, 2, 3, 4, 5, 6, 7, most, most}, 4},
		{255, []uint64{1, 2, 3, 4, 5, 6, 7, most}, 4}, {most, []uint64{1, 2, 3, 4, 5, 6, 7, most}, 4}, {128 + 7, []uint64{5, 3, 9}, 5},
		{7, []uint64{most, most, most}, most}, {7, []uint64{most, most}, most}, {7, []uint64{most, 0, most - 1}, most - 1},
		{7, []uint64{1 << 63, 1, 2}, 2}, {7, []uint64{1 << 63, 1<<63 - 1, 2}, 1<<63 - 1}, {7, []uint64{1 << 32, 1, 2}, 2},
	} {
		if got := quorum.Reached(x.c, x.at); got != x.want {
			t.Errorf("row %d: Reached of %#x and %d answers %d, want %d", i, x.c, x.at, got, x.want)
		}
	}
}

// reaches holds Reached to the words, with bits above and without, and to leaving what it is handed.
func reaches(t *testing.T, c uint64, at []uint64) {
	t.Helper()
	want := reachedOf(c, at)
	before := slices.Clone(at)
	for _, x := range []uint64{c, c + 128, c + math.MaxUint64 - 127} {
		if got := quorum.Reached(x, at); got != want {
			t.Fatalf("Reached of %#x and %d answers %d, want %d", x, at, got, want)
		}
	}
	if !slices.Equal(at, before) {
		t.Fatalf("Reached of %#x leaves %d as %d", c, before, at)
	}
}

// P6.1: Reached of all sets, with all short lists over some numbers.
func TestReachedAllShort(t *testing.T) {
	level := [][]uint64{{}}
	for range 8 {
		var next [][]uint64
		for _, at := range level {
			for c := range uint64(every) {
				reaches(t, c, at)
			}
			if len(at) < 5 {
				next = append(next, append(slices.Clone(at), 0), append(slices.Clone(at), 3), append(slices.Clone(at), 4))
			} else {
				next = append(next, append(slices.Clone(at), 2), append(slices.Clone(at), 5))
			}
		}
		level = next
	}
}

// P6.1: Reached of all sets, with lists of any numbers, often the same ones, and any length.
func TestReachedAnyNumbers(t *testing.T) {
	r := draws(2)
	for range 300 {
		at := make([]uint64, r.IntN(12))
		shift := r.IntN(64)
		for i := range at {
			at[i] = r.Uint64() >> shift
		}
		for c := range uint64(every) {
			reaches(t, c, at)
		}
	}
}

// P0: a list that is far longer than the nodes are.
func TestReachedAtLength(t *testing.T) {
	at := make([]uint64, 1<<22)
	for i := range at {
		at[i] = uint64(len(at) - i)
	}
	if got := quorum.Reached(math.MaxUint64, at); got != uint64(len(at)-3) {
		t.Errorf("Reached answers %d", got)
	}
}

// P6.1: Change, its example, and each edge: at both of its errors the set is 0.
func TestChangeExamples(t *testing.T) {
	for i, x := range []struct {
		c    uint64
		add  bool
		id   int
		want uint64
		e    api.Errno
	}{
		{1, false, 0, 0, api.ErrMember}, {64, false, 6, 0, api.ErrMember}, // the only one
		{7, true, 1, 0, api.ErrMember}, {1, true, 0, 0, api.ErrMember}, {127, true, 6, 0, api.ErrMember}, // there already
		{5, false, 1, 0, api.ErrMember}, {1, false, 6, 0, api.ErrMember}, // not there
		{7, true, 3, 15, api.OK}, {1, true, 6, 65, api.OK}, {126, true, 0, 127, api.OK},
		{7, false, 1, 5, api.OK}, {3, false, 0, 2, api.OK}, {127, false, 6, 63, api.OK},
		{0, true, 0, 0, api.ErrArg}, {0, false, 0, 0, api.ErrArg}, {128, true, 0, 0, api.ErrArg}, {128, false, 0, 0, api.ErrArg},
		{129, true, 0, 0, api.ErrArg}, {129, false, 0, 0, api.ErrArg}, {129, false, 1, 0, api.ErrArg}, {128, false, 7, 0, api.ErrArg},
		{128, true, 7, 0, api.ErrArg}, {1 << 63, false, 63, 0, api.ErrArg}, {math.MaxUint64, true, 3, 0, api.ErrArg},
		{1, true, 7, 0, api.ErrArg}, {1, false, 7, 0, api.ErrArg}, {1, true, -1, 0, api.ErrArg}, {1, false, -1, 0, api.ErrArg},
		{1, true, 64, 0, api.ErrArg}, {1, true, 63, 0, api.ErrArg}, {1, true, math.MinInt, 0, api.ErrArg}, {1, false, math.MaxInt, 0, api.ErrArg},
		{0, false, 9, 0, api.ErrArg},
	} {
		if c, e := quorum.Change(x.c, x.add, x.id); c != x.want || e != x.e {
			t.Errorf("row %d: Change of %#x, %v, %d answers %#x, %d", i, x.c, x.add, x.id, c, e)
		}
	}
}

// P6.1: Change of all sets, of numbers that are none, and of all nodes and others.
func TestChange(t *testing.T) {
	for _, c := range numbers() {
		for _, id := range ids() {
			for _, add := range []bool{false, true} {
				want, e := changeOf(c, add, id)
				if got, f := quorum.Change(c, add, id); got != want || f != e {
					t.Fatalf("Change of %#x, %v, %d answers %#x, %d; want %#x, %d", c, add, id, got, f, want, e)
				}
			}
		}
	}
}

// majorities are all sets that are a majority of c.
func majorities(c uint64) []uint64 {
	var out []uint64
	for set := range uint64(every) {
		if quorum.Majority(c, set) {
			out = append(out, set)
		}
	}
	return out
}

// meet holds each majority of c to having a member with each of d, which both of these have.
func meet(t *testing.T, c, d uint64) {
	t.Helper()
	for _, a := range majorities(c) {
		for _, b := range majorities(d) {
			if len(quorum.Members(c&d&a&b)) == 0 {
				t.Fatalf("%#x of %#x and %#x of %#x have no member in common", a, c, b, d)
			}
		}
	}
}

// P6.2: two majorities of one set meet, and there is one of each set that has members.
func TestMajoritiesMeet(t *testing.T) {
	for c := range uint64(every) {
		meet(t, c, c)
		if there := len(majorities(c)) > 0; there != (c > 0) {
			t.Errorf("is there a majority of %#x? %v", c, there)
		}
	}
}

// P6.2: a majority of a set and one of what Change makes of it meet; what Change makes is sound, and one member more or fewer.
func TestMajoritiesMeetAcrossChange(t *testing.T) {
	changes := 0
	for c := range uint64(every) {
		for id := range api.MaxNodes {
			for _, add := range []bool{false, true} {
				d, e := quorum.Change(c, add, id)
				if e != api.OK {
					continue
				}
				changes++
				if !quorum.Sound(d) || quorum.Has(d, id) != add || quorum.Has(c, id) == add {
					t.Fatalf("Change of %#x, %v, %d answers %#x", c, add, id, d)
				}
				meet(t, c, d)
			}
		}
	}
	if want := 2 * 7 * (64 - 1); changes != want { // each pair of neighbours both ways, but for those with the empty set
		t.Errorf("there are %d changes, want %d", changes, want)
	}
}

// P6.2: what a majority has reached is seen in each majority of the set, and of what Change makes of it.
func TestReachedIsSeen(t *testing.T) {
	r := draws(3)
	for c := uint64(1); c < every; c++ {
		at := make([]uint64, 7)
		for i := range at {
			at[i] = r.Uint64N(9)
		}
		d, e := quorum.Change(c, r.IntN(2) == 0, r.IntN(7))
		if e != api.OK {
			d = c
		}
		reached := quorum.Reached(c, at)
		for _, set := range majorities(d) {
			if !slices.ContainsFunc(quorum.Members(set&d), func(id int) bool { return quorum.Has(c, id) && at[id] >= reached }) {
				t.Fatalf("nobody of %#x, a majority of %#x, has %d by %d, a set %#x", set, d, reached, at, c)
			}
		}
	}
}

// Rule 4: what is handed in stays, the room behind it too; an answer is new memory.
func TestHandedInStays(t *testing.T) {
	for n := range 9 {
		room := []uint64{3, 9, 1, 7, 7, 0, 8, 2, 5, 4}
		before := slices.Clone(room)
		for c := range uint64(every) {
			quorum.Reached(c, room[:n])
		}
		if !slices.Equal(room, before) {
			t.Fatalf("of the first %d numbers it leaves %d as %d", n, before, room)
		}
	}
	for c := range uint64(every) {
		l := quorum.Members(c)
		for i := range l[:cap(l)] {
			l[:cap(l)][i] = 99
		}
		if again := quorum.Members(c); !slices.Equal(again, membersOf(c)) {
			t.Fatalf("Members of %#x answers %v the second time", c, again)
		}
	}
}
