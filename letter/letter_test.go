package letter_test

import (
	"fmt"
	"math"
	"math/big"
	"math/rand/v2"
	"reflect"
	"slices"
	"strings"
	"testing"

	"tontine/api"
	"tontine/letter"
)

// The chapter's numbers.
const (
	appends = 3
	batch   = 8
	record  = 65536
)

// numberBytes are a number's bytes by layer 3's words, by another way than the program's.
func numberBytes(x uint64) string {
	b := new(big.Int).SetUint64(x).Bytes() // the highest first, the first of them not 0
	return string(append([]byte{byte(len(b))}, b...))
}

func textBytes(s string) string { return numberBytes(uint64(len(s))) + s }

// fields: a letter's bytes by the chapter's words, a part each, whether it may be or not.
func fields(x api.Letter) []string {
	ok := uint64(0)
	if x.Ok {
		ok = 1
	}
	var l []string
	for _, n := range []uint64{uint64(x.Kind), uint64(x.From), uint64(x.To), x.Term, x.Index, x.Prev, x.Commit, ok, uint64(len(x.Entries))} {
		l = append(l, numberBytes(n))
	}
	for _, y := range x.Entries {
		l = append(l, numberBytes(y.Term), numberBytes(y.Index), numberBytes(uint64(y.Kind)), textBytes(y.Data))
	}
	return append(l, textBytes(x.Data))
}

func bytesOf(x api.Letter) string { return strings.Join(fields(x), "") }

// may: may a letter be, by the chapter's words?
func may(x api.Letter) bool {
	if !slices.Contains([]int{1, 2, 3, 4, 5, 6, 7, 8, 9}, x.Kind) || x.From != int(uint8(x.From)) || x.To != int(uint8(x.To)) {
		return false
	}
	if len(x.Entries) > batch || x.Kind != appends && len(x.Entries) != 0 {
		return false
	}
	for _, y := range x.Entries {
		if !slices.Contains([]int{0, 1, 2}, y.Kind) || len(y.Data) > record {
			return false
		}
	}
	return len(x.Data) <= record
}

// loose reads what numbers and texts may stand at the front of bytes, in one form or another: whoever asks holds what it reads to the words behind that.
type loose struct {
	left string
	bad  bool
}

func (r *loose) take(n uint64) string {
	if r.bad || n > uint64(len(r.left)) {
		r.bad = true
		return ""
	}
	s := r.left[:n]
	r.left = r.left[n:]
	return s
}

func (r *loose) num() uint64 {
	first := r.take(1)
	if first == "" {
		return 0
	}
	x := new(big.Int).SetBytes([]byte(r.take(uint64(first[0]))))
	r.bad = r.bad || !x.IsUint64()
	return x.Uint64()
}

func (r *loose) text() string { return r.take(r.num()) }

// meant: the letter whose bytes s is, by the chapter's words; false, if there is none.
func meant(s string) (api.Letter, bool) {
	r := &loose{left: s}
	x := api.Letter{Kind: int(r.num()), From: int(r.num()), To: int(r.num()), Term: r.num(), Index: r.num(), Prev: r.num(), Commit: r.num(), Ok: r.num() == 1}
	for n := r.num(); n > 0 && !r.bad; n-- {
		x.Entries = append(x.Entries, api.Entry{Term: r.num(), Index: r.num(), Kind: int(r.num()), Data: r.text()})
	}
	x.Data = r.text()
	if !may(x) || bytesOf(x) != s {
		return api.Letter{}, false
	}
	return x, true
}

// same holds two letters against one another; a list without entries may be nil or not.
func same(a, b api.Letter) bool {
	if len(a.Entries) == 0 && len(b.Entries) == 0 {
		a.Entries, b.Entries = nil, nil
	}
	return reflect.DeepEqual(a, b)
}

// one: a text of one byte.
func one(b int) string { return string([]byte{byte(b)}) }

// brief: what a test tells of a letter or of bytes, which may be many, and any.
func brief(x any) string {
	s := fmt.Sprintf("%+q", fmt.Sprintf("%+v", x))
	return s[:min(len(s), 300)]
}

// holdLetter holds May, Encode and Decode to the words at a letter.
func holdLetter(t *testing.T, x api.Letter) {
	t.Helper()
	ok := may(x)
	if letter.May(x) != ok {
		t.Fatalf("May answers %v of %s", !ok, brief(x))
	}
	s, e := letter.Encode(x)
	if !ok {
		if e != api.ErrArg || s != "" {
			t.Fatalf("Encode answers %s, %d of %s", brief(s), int(e), brief(x))
		}
		holdBytes(t, bytesOf(x))
		return
	}
	if want := bytesOf(x); e != api.OK || s != want {
		t.Fatalf("Encode answers %s, %d of %s; want %s", brief(s), int(e), brief(x), brief(want))
	}
	if y, e := letter.Decode(s); e != api.OK || !same(y, x) {
		t.Fatalf("%s comes back as %s, %d", brief(x), brief(y), int(e))
	}
}

// holdBytes holds Decode to the words at bytes, and tells whether they are a letter's.
func holdBytes(t *testing.T, s string) bool {
	t.Helper()
	want, ok := meant(s)
	x, e := letter.Decode(s)
	if !ok {
		if e != api.ErrForm || !reflect.DeepEqual(x, api.Letter{}) {
			t.Fatalf("Decode answers %s, %d of %s", brief(x), int(e), brief(s))
		}
		return false
	}
	if e != api.OK || !same(x, want) {
		t.Fatalf("Decode answers %s, %d of %s; want %s", brief(x), int(e), brief(s), brief(want))
	}
	if again, e := letter.Encode(x); e != api.OK || again != s {
		t.Fatalf("%s comes back as %s, %d", brief(s), brief(again), int(e))
	}
	return true
}

// ints: numbers on both sides of each of the chapter's edges, and far ones.
func ints() []int {
	l := []int{math.MinInt, math.MinInt + 1, math.MinInt32, math.MaxInt32, math.MaxInt - 1, math.MaxInt, 1 << 32, 1<<32 + 3, 65536 + 3}
	for i := -260; i <= 520; i++ {
		l = append(l, i)
	}
	return l
}

// nums: the edges of each count of bytes.
func nums() []uint64 {
	l := []uint64{0, 1, 2, 300, math.MaxUint64 - 1, math.MaxUint64}
	for i := 8; i < 64; i += 8 {
		l = append(l, 1<<i-1, 1<<i, 1<<i+1)
	}
	return l
}

// text: one of so many bytes, of all kinds.
func text(n int) string {
	b := make([]byte, n)
	for i := range b {
		b[i] = byte(i*i + n)
	}
	return string(b)
}

// entries: so many that may be.
func entries(n int) []api.Entry {
	var l []api.Entry
	for i := range n {
		l = append(l, api.Entry{Term: uint64(1000 * i), Index: uint64(i + 250), Kind: i % 3, Data: text(i % 3)})
	}
	return l
}

// whole: a letter that may be, in which each field says something.
func whole() api.Letter {
	return api.Letter{Kind: appends, From: 200, To: 7, Term: 300, Index: 4, Prev: 70000, Commit: 2, Ok: true, Entries: entries(3), Data: "\x00z\xff"}
}

// ordinary: letters that may be, of each kind.
func ordinary() []api.Letter {
	l := []api.Letter{whole()}
	for kind := 1; kind <= 9; kind++ {
		l = append(l, api.Letter{Kind: kind}, api.Letter{Kind: kind, From: 255, To: 255, Term: math.MaxUint64, Index: 256, Prev: 255, Commit: 1 << 40, Ok: true, Data: "ab"})
	}
	for n := range batch + 1 {
		l = append(l, api.Letter{Kind: appends, Entries: entries(n)})
	}
	return l
}

// draws gives numbers that look like chance and are the same each time.
func draws(seed int) *rand.Rand { return rand.New(rand.NewPCG(uint64(seed), 11)) }

// anyNum draws a number of any count of bytes.
func anyNum(r *rand.Rand) uint64 { return r.Uint64() >> r.IntN(65) }

// anyLetter draws a letter that may be.
func anyLetter(r *rand.Rand) api.Letter {
	x := api.Letter{Kind: 1 + r.IntN(9), From: r.IntN(256), To: r.IntN(256), Term: anyNum(r), Index: anyNum(r), Prev: anyNum(r), Commit: anyNum(r), Ok: r.IntN(2) == 0, Data: text(r.IntN(20))}
	if r.IntN(3) == 0 {
		x.Kind = appends
	}
	if x.Kind == appends {
		for range r.IntN(batch + 1) {
			x.Entries = append(x.Entries, api.Entry{Term: anyNum(r), Index: anyNum(r), Kind: r.IntN(3), Data: text(r.IntN(300) * r.IntN(2))})
		}
	}
	return x
}

// P11.1: the chapter's example.
func TestExample(t *testing.T) {
	x := api.Letter{Kind: api.LetterVote, From: 0, To: 1, Term: 3, Ok: true}
	want := "\x01\x02\x00\x01\x01\x01\x03\x00\x00\x00\x01\x01\x00\x00"
	if s, e := letter.Encode(x); e != api.OK || s != want || !letter.May(x) {
		t.Errorf("Encode answers % x, %d", s, int(e))
	}
	if y, e := letter.Decode(want); e != api.OK || !same(x, y) {
		t.Errorf("Decode answers %s, %d", brief(y), int(e))
	}
}

// P11.1: bytes written out by hand: which field stands where.
func TestEachField(t *testing.T) {
	single := []api.Entry{{Term: 1, Index: 2, Kind: 1, Data: "ab"}}
	for _, c := range []struct {
		x    api.Letter
		want string
	}{
		{api.Letter{Kind: 1}, "\x01\x01" + "\x00\x00" + "\x00\x00\x00\x00" + "\x00\x00\x00"},
		{api.Letter{Kind: 9, From: 1}, "\x01\x09" + "\x01\x01\x00" + "\x00\x00\x00\x00" + "\x00\x00\x00"},
		{api.Letter{Kind: 4, To: 255}, "\x01\x04" + "\x00\x01\xff" + "\x00\x00\x00\x00" + "\x00\x00\x00"},
		{api.Letter{Kind: 3, Term: 256}, "\x01\x03" + "\x00\x00" + "\x02\x01\x00\x00\x00\x00" + "\x00\x00\x00"},
		{api.Letter{Kind: 5, Index: 5}, "\x01\x05" + "\x00\x00" + "\x00\x01\x05\x00\x00" + "\x00\x00\x00"},
		{api.Letter{Kind: 6, Prev: 6}, "\x01\x06" + "\x00\x00" + "\x00\x00\x01\x06\x00" + "\x00\x00\x00"},
		{api.Letter{Kind: 7, Commit: math.MaxUint64}, "\x01\x07" + "\x00\x00" + "\x00\x00\x00\x08\xff\xff\xff\xff\xff\xff\xff\xff" + "\x00\x00\x00"},
		{api.Letter{Kind: 8, Ok: true}, "\x01\x08" + "\x00\x00" + "\x00\x00\x00\x00" + "\x01\x01\x00\x00"},
		{api.Letter{Kind: 2, Data: "x\x00"}, "\x01\x02" + "\x00\x00" + "\x00\x00\x00\x00" + "\x00\x00\x01\x02x\x00"},
		{api.Letter{Kind: 3, Entries: make([]api.Entry, 2)}, "\x01\x03" + "\x00\x00" + "\x00\x00\x00\x00" + "\x00\x01\x02" + "\x00\x00\x00\x00" + "\x00\x00\x00\x00" + "\x00"},
		{api.Letter{Kind: 3, Entries: single, Data: "z"}, "\x01\x03" + "\x00\x00" + "\x00\x00\x00\x00" + "\x00\x01\x01" + "\x01\x01\x01\x02\x01\x01\x01\x02ab" + "\x01\x01z"},
	} {
		if s, e := letter.Encode(c.x); e != api.OK || s != c.want {
			t.Errorf("Encode answers % x, %d of %s; want % x", s, int(e), brief(c.x), c.want)
		}
		if x, e := letter.Decode(c.want); e != api.OK || !same(x, c.x) {
			t.Errorf("Decode answers %s, %d of % x; want %s", brief(x), int(e), c.want, brief(c.x))
		}
	}
}

// P11.1, P11.2: ordinary letters may be, and go there and back.
func TestOrdinary(t *testing.T) {
	for _, x := range ordinary() {
		if !letter.May(x) {
			t.Errorf("May answers false of %s", brief(x))
		}
		holdLetter(t, x)
		if !holdBytes(t, bytesOf(x)) {
			t.Errorf("%s isn't decoded", brief(x))
		}
	}
}

// P11.1, P11.2, P0: all numbers of a kind, of who sends and of who gets.
func TestNumbersAtEdges(t *testing.T) {
	for _, i := range ints() {
		for _, with := range [][]api.Entry{nil, entries(1)} {
			holdLetter(t, api.Letter{Kind: i, Entries: with})
			holdLetter(t, api.Letter{Kind: appends, From: i, Entries: with})
			holdLetter(t, api.Letter{Kind: appends, To: i, Entries: with})
			holdLetter(t, api.Letter{Kind: 8, From: i, To: i})
			holdLetter(t, api.Letter{Kind: i, From: 255, To: 255})
		}
		for place := range 3 {
			x := api.Letter{Kind: appends, Entries: entries(3)}
			x.Entries[place].Kind = i
			holdLetter(t, x)
		}
	}
	for _, i := range []int{-1, 256} {
		if letter.May(api.Letter{Kind: 1, From: i}) || letter.May(api.Letter{Kind: 1, To: i}) || !letter.May(api.Letter{Kind: 1, From: i & 255, To: i & 255}) {
			t.Errorf("From and To %d: May is wrong", i)
		}
	}
}

// P11.1, P11.2: any term, index, term before and commit.
func TestAnyNumbers(t *testing.T) {
	for _, n := range nums() {
		for _, x := range []api.Letter{
			{Kind: 1, Term: n}, {Kind: 4, Index: n}, {Kind: 3, Prev: n}, {Kind: 3, Commit: n}, {Kind: 5, Term: n, Index: n, Prev: n, Commit: n},
			{Kind: 3, Entries: []api.Entry{{Term: n}}}, {Kind: 3, Entries: []api.Entry{{}, {Index: n}}}, {Kind: 3, Entries: []api.Entry{{Term: n, Index: n}, {Term: n, Index: n}}},
		} {
			if !letter.May(x) {
				t.Fatalf("May answers false of %s", brief(x))
			}
			holdLetter(t, x)
		}
	}
}

// P11.1: only a letter of kind 3 has entries, and 8 at most.
func TestEntries(t *testing.T) {
	for kind := -1; kind <= 11; kind++ {
		for _, n := range []int{0, 1, 2, 7, 8, 9, 10, 255, 256, 257} {
			x := api.Letter{Kind: kind, Entries: entries(n)}
			if want := n == 0 && kind >= 1 && kind <= 9 || n <= 8 && kind == 3; letter.May(x) != want {
				t.Errorf("May answers %v of kind %d with %d entries", !want, kind, n)
			}
			holdLetter(t, x)
			x.Entries = make([]api.Entry, n)
			holdLetter(t, x)
		}
		holdLetter(t, api.Letter{Kind: kind, Entries: []api.Entry{}})
	}
}

// P11.1, P11.2: 65536 bytes of data at most, the letter's and each entry's.
func TestDataAtEdges(t *testing.T) {
	for _, n := range []int{0, 1, 2, 254, 255, 256, 257, 65534, 65535, 65536, 65537, 65538, 1 << 17} {
		for kind := 1; kind <= 9; kind++ {
			x := api.Letter{Kind: kind, Data: text(n)}
			if letter.May(x) != (n <= 65536) {
				t.Errorf("May answers %v of %d bytes", n > 65536, n)
			}
			holdLetter(t, x)
		}
		for place := range batch {
			x := api.Letter{Kind: appends, Entries: entries(batch), Data: "d"}
			x.Entries[place].Data = text(n)
			if letter.May(x) != (n <= 65536) {
				t.Errorf("May answers %v of %d bytes in entry %d", n > 65536, n, place)
			}
			holdLetter(t, x)
		}
	}
}

// P11.1, P11.2: the longest letter there is.
func TestLongest(t *testing.T) {
	const most = math.MaxUint64
	x := api.Letter{Kind: appends, From: 255, To: 255, Term: most, Index: most, Prev: most, Commit: most, Ok: true, Data: text(record)}
	for i := range batch {
		x.Entries = append(x.Entries, api.Entry{Term: most, Index: most - uint64(i), Kind: 2, Data: text(record)})
	}
	holdLetter(t, x)
	s := bytesOf(x)
	if !holdBytes(t, s) {
		t.Error("the longest letter isn't decoded")
	}
	for _, wrong := range []string{s[1:], s[:len(s)-1], s + "\x00", s + s} {
		if holdBytes(t, wrong) {
			t.Error("bytes too few, or too many, are decoded")
		}
	}
}

// P11.1: bytes of a letter that may not be, or with a byte too many or too few, are no letter's.
func TestDecodeWrong(t *testing.T) {
	long := text(record + 1)
	wrong := []string{"", "\x00", "\x01", "\x01\x03", strings.Repeat("\x00", 11), strings.Repeat("\xff", 40), strings.Repeat("\x00", 11) + long}
	for _, x := range []api.Letter{
		{}, {Kind: 10}, {Kind: 255}, {Kind: 256 + 3}, {Kind: -1}, {Kind: math.MinInt}, {Kind: math.MaxInt},
		{Kind: 1, From: 256}, {Kind: 1, To: 256}, {Kind: 1, From: -1}, {Kind: 1, To: -1},
		{Kind: 2, Entries: entries(1)}, {Kind: 5, Entries: entries(8)}, {Kind: 3, Entries: entries(9)}, {Kind: 3, Entries: []api.Entry{{Kind: 3}}}, {Kind: 3, Entries: []api.Entry{{}, {Kind: -1}}},
		{Kind: 9, Data: long}, {Kind: 3, Entries: []api.Entry{{Data: long}}},
	} {
		wrong = append(wrong, bytesOf(x))
	}
	for _, s := range wrong {
		if holdBytes(t, s) {
			t.Errorf("%s is decoded", brief(s))
		}
	}
}

// P11.2: what is decoded is encoded as it was: no field has a second form.
func TestOneForm(t *testing.T) {
	forms := func(field string) []string {
		n, behind := int(field[0]), field[1:]
		l := []string{"", "\xff", one(n+1) + behind}
		for zeros := 1; n+zeros <= 9; zeros++ { // ahead of a number's bytes
			l = append(l, one(n+zeros)+strings.Repeat("\x00", zeros)+behind)
		}
		return l
	}
	for _, x := range ordinary() {
		l := fields(x)
		for i := range l {
			for _, form := range forms(l[i]) {
				changed := slices.Clone(l)
				changed[i] = form
				holdBytes(t, strings.Join(changed, ""))
			}
		}
	}
	l := fields(whole())
	for i, field := range l {
		if l[i] = one(int(field[0])+1) + "\x00" + field[1:]; holdBytes(t, strings.Join(l, "")) {
			t.Errorf("field %d has a second form", i)
		}
		l[i] = field
	}
}

// P11.1: in each field a number that it may have, or not.
func TestFieldsChanged(t *testing.T) {
	for _, x := range []api.Letter{whole(), {Kind: 8, Data: "ab"}, {Kind: 3}, {Kind: 3, Entries: entries(8)}} {
		l := fields(x)
		for i := range l {
			for _, n := range append(nums(), 3, 4, 5, 6, 7, 8, 9, 10, 11, 254, record-1, record, record+1, 1<<31, 1<<32-1, 1<<32+1, 1<<63) {
				changed := slices.Clone(l)
				changed[i] = numberBytes(n)
				holdBytes(t, strings.Join(changed, ""))
				changed[i] += "ab" // a text may end here
				holdBytes(t, strings.Join(changed, ""))
			}
		}
	}
}

// P11.1: the truth is 0 or 1, nothing else.
func TestTruth(t *testing.T) {
	for n := range uint64(300) {
		l := fields(api.Letter{Kind: 2})
		l[7] = numberBytes(n)
		if holdBytes(t, strings.Join(l, "")) != (n < 2) {
			t.Errorf("%d is a truth: %v", n, n >= 2)
		}
	}
}

// P11.1: each first part of a letter's bytes, each of their bytes changed, gone, or doubled.
func TestBytesChanged(t *testing.T) {
	for _, x := range ordinary() {
		s := bytesOf(x)
		for i := range s {
			if holdBytes(t, s[:i]) {
				t.Fatalf("the first %d bytes of %s are decoded", i, brief(s))
			}
			holdBytes(t, s[i:])
			holdBytes(t, s[:i]+s[i+1:])
			holdBytes(t, s[:i]+s[i:i+1]+s[i:])
			for b := range 256 {
				holdBytes(t, s[:i]+one(b)+s[i+1:])
			}
		}
		for b := range 256 {
			if holdBytes(t, s+one(b)) {
				t.Fatalf("a byte behind %s is decoded", brief(s))
			}
		}
		if holdBytes(t, s+s) {
			t.Fatalf("%s is decoded twice", brief(s))
		}
	}
}

// P11.1, P11.2: letters that look like chance, and their bytes, changed at some places.
func TestChance(t *testing.T) {
	r := draws(1)
	for range 3000 {
		x := anyLetter(r)
		holdLetter(t, x)
		b := []byte(bytesOf(x))
		for range 5 {
			b[r.IntN(len(b))] = byte(r.Uint32() >> r.IntN(8))
			holdBytes(t, string(b))
		}
	}
}

// P11.1, P0: bytes that look like chance, of small numbers mostly, as a letter's are.
func TestAnyBytes(t *testing.T) {
	r := draws(2)
	decoded := 0
	for i := range 200000 {
		b := make([]byte, 11+r.IntN(12))
		for k := range b {
			b[k] = byte(r.IntN(2 + i%3 + 253*(i%2)*(k%2)))
		}
		b[0], b[1] = 1, byte(1+r.IntN(10))
		if holdBytes(t, string(b)) {
			decoded++
		}
	}
	if decoded < 100 {
		t.Errorf("only %d of these are letters' bytes", decoded)
	}
}

// P11.2: two letters don't have the same bytes.
func TestApart(t *testing.T) {
	seen := map[string]api.Letter{}
	for _, numbers := range []uint64{0, 1, 255, 256} {
		for i := range 1 << 8 {
			x := api.Letter{Kind: appends, From: i & 1, To: i >> 1 & 1, Term: uint64(i>>2&1) * numbers, Index: uint64(i>>3&1) * numbers, Prev: uint64(i>>4&1) * numbers, Commit: uint64(i>>5&1) * numbers, Ok: i>>6&1 == 1, Entries: make([]api.Entry, i>>7&1)}
			s, _ := letter.Encode(x)
			if y, there := seen[s]; there && !same(x, y) {
				t.Fatalf("%s and %s have the same bytes", brief(x), brief(y))
			}
			seen[s] = x
		}
	}
	if len(seen) != 16+3*(256-16) { // 16 letters have no such number at all, and are one in each round
		t.Errorf("%d letters have bytes of their own", len(seen))
	}
}

// Rule 4: what is handed in is not changed, the room behind its entries neither.
func TestHandedIn(t *testing.T) {
	room := entries(batch + 2)
	was := slices.Clone(room)
	for n := range len(room) + 1 {
		x := api.Letter{Kind: appends, Entries: room[:n], Data: "d"}
		letter.May(x)
		letter.Encode(x)
		if len(x.Entries) != n || !slices.Equal(room, was) {
			t.Fatal("a call changes what it is handed")
		}
	}
}

// Rules 4 and 8: what is answered is new memory, and hangs on the arguments alone.
func TestAnswersAreNew(t *testing.T) {
	s := bytesOf(whole())
	for range 3 {
		x, e := letter.Decode(s)
		if e != api.OK || !same(x, whole()) {
			t.Fatalf("Decode answers %s, %d", brief(x), int(e))
		}
		y, _ := letter.Decode(s)
		for i := range x.Entries[:cap(x.Entries)] {
			x.Entries[:cap(x.Entries)][i] = api.Entry{Data: "spoiled"}
		}
		if !same(y, whole()) {
			t.Fatal("two answers share memory")
		}
		letter.Encode(api.Letter{Kind: -1})
		letter.Decode("wrong")
		if again, _ := letter.Encode(whole()); again != s {
			t.Fatal("Encode hangs on what was encoded before")
		}
	}
}
