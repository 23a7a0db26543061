package net_test

import (
	"fmt"
	"math"
	"math/big"
	"math/rand/v2"
	"reflect"
	"slices"
	"testing"

	"tontine/api"
	"tontine/net"
)

// many is how many letters may be under way.
const many = 256

// model is a net by the chapter's words.
type model struct {
	letters []api.Letter
	lost    int
}

// at: what is left of i divided by how many there are, from 0 up; less than 0, if there is none.
func (m *model) at(i int) int {
	if len(m.letters) == 0 {
		return -1
	}
	left := new(big.Int).Mod(big.NewInt(int64(i)), big.NewInt(int64(len(m.letters)))) // Euclid's: from 0 up
	return int(left.Int64())
}

func (m *model) send(x api.Letter) bool {
	if len(m.letters) == many {
		m.lost++
		return false
	}
	m.letters = append(m.letters, deep(x))
	return true
}

func (m *model) take(i int) (api.Letter, bool) {
	k := m.at(i)
	if k < 0 {
		return api.Letter{}, false
	}
	x := m.letters[k]
	m.letters = append(slices.Clone(m.letters[:k]), m.letters[k+1:]...)
	return x, true
}

func (m *model) lose(i int) bool {
	if _, ok := m.take(i); !ok {
		return false
	}
	m.lost++
	return true
}

func (m *model) double(i int) bool {
	k := m.at(i)
	return k >= 0 && m.send(m.letters[k])
}

// deep: a letter that shares no memory with x.
func deep(x api.Letter) api.Letter {
	x.Entries = slices.Clone(x.Entries)
	return x
}

// same holds two letters against one another; a list without entries may be nil or not.
func same(a, b api.Letter) bool {
	numbers := a.Kind == b.Kind && a.From == b.From && a.To == b.To && a.Term == b.Term && a.Index == b.Index && a.Prev == b.Prev && a.Commit == b.Commit
	return numbers && a.Ok == b.Ok && a.Data == b.Data && slices.Equal(a.Entries, b.Entries)
}

// brief: what a test tells of a letter, whose bytes may be many, and any.
func brief(x api.Letter) string {
	if len(x.Data) > 40 {
		x.Data = x.Data[:40]
	}
	return fmt.Sprintf("%+q", fmt.Sprintf("%+v", x))
}

// pair is a net and its model, which are called alike.
type pair struct {
	t *testing.T
	n *net.Net
	m *model
}

func newPair(t *testing.T) *pair { return &pair{t: t, n: net.New(), m: &model{}} }

// filled: a pair with so many letters under way.
func filled(t *testing.T, letters int) *pair {
	t.Helper()
	p := newPair(t)
	for i := range letters {
		p.send(numbered(i))
	}
	p.told()
	return p
}

// told holds what a net tells of itself to the words.
func (p *pair) told() {
	p.t.Helper()
	if way, lost := p.n.Count(); way != len(p.m.letters) || lost != p.m.lost {
		p.t.Fatalf("Count answers %d, %d; want %d, %d", way, lost, len(p.m.letters), p.m.lost)
	}
	l := p.n.All()
	if len(l) != len(p.m.letters) {
		p.t.Fatalf("All answers %d letters, want %d", len(l), len(p.m.letters))
	}
	for i, want := range p.m.letters {
		if !same(l[i], want) {
			p.t.Fatalf("All's letter %d is %s, want %s", i, brief(l[i]), brief(want))
		}
	}
}

func (p *pair) send(x api.Letter) bool {
	p.t.Helper()
	want := p.m.send(x)
	if got := p.n.Send(x); got != want {
		p.t.Fatalf("with %d under way Send answers %v", len(p.m.letters), got)
	}
	return want
}

func (p *pair) take(i int) (api.Letter, bool) {
	p.t.Helper()
	want, ok := p.m.take(i)
	got, is := p.n.Take(i)
	if is != ok || !same(got, want) {
		p.t.Fatalf("Take(%d) answers %s, %v; want %s, %v", i, brief(got), is, brief(want), ok)
	}
	return got, is
}

func (p *pair) lose(i int) bool {
	p.t.Helper()
	want := p.m.lose(i)
	if got := p.n.Lose(i); got != want {
		p.t.Fatalf("Lose(%d) answers %v", i, got)
	}
	return want
}

func (p *pair) double(i int) bool {
	p.t.Helper()
	want := p.m.double(i)
	if got := p.n.Double(i); got != want {
		p.t.Fatalf("with %d under way Double(%d) answers %v", len(p.m.letters), i, got)
	}
	return want
}

// out takes all that is under way, and asks for more.
func (p *pair) out() {
	p.t.Helper()
	for len(p.m.letters) > 0 {
		p.take(len(p.m.letters) / 2)
		p.told()
	}
	p.nothing()
}

// nothing asks for letters where none is under way.
func (p *pair) nothing() {
	p.t.Helper()
	for _, i := range numbers(1) {
		if x, ok := p.take(i); ok || !reflect.DeepEqual(x, api.Letter{}) {
			p.t.Fatalf("Take(%d) of nothing answers %s, %v", i, brief(x), ok)
		}
		if p.lose(i) || p.double(i) {
			p.t.Fatalf("Lose(%d) or Double(%d) of nothing answers true", i, i)
		}
		p.told()
	}
}

// numbered: a letter that is unlike all of other numbers.
func numbered(i int) api.Letter {
	x := api.Letter{Kind: api.LetterAppend, Index: uint64(i), Data: string(rune('a' + i%26))}
	for k := range i % 4 {
		x.Entries = append(x.Entries, api.Entry{Term: uint64(i), Index: uint64(k), Kind: api.EntryCommand, Data: "d"})
	}
	return x
}

// numbers: small ones and great ones, on both sides of 0, about the multiples of n.
func numbers(n int) []int {
	l := []int{math.MinInt, math.MinInt + 1, math.MinInt + n, math.MinInt32 - 1, math.MinInt32, math.MaxInt32, math.MaxInt32 + 1, math.MaxInt - n, math.MaxInt - 1, math.MaxInt}
	for _, k := range []int{-1000003, -3, -2, -1, 0, 1, 2, 3, 1000003} {
		l = append(l, k*n-1, k*n, k*n+1, k*n+n/2)
	}
	return l
}

// draws gives numbers that look like chance and are the same each time.
func draws(seed int) *rand.Rand { return rand.New(rand.NewPCG(uint64(seed), 10)) }

// anyNumber draws a number: small, or any.
func anyNumber(r *rand.Rand) int {
	if r.IntN(2) == 0 {
		return r.IntN(40) - 20
	}
	return int(r.Uint64())
}

// P10.1: of a new net nothing is under way, and nothing is lost.
func TestNew(t *testing.T) {
	p := newPair(t)
	p.told()
	if way, lost := p.n.Count(); way != 0 || lost != 0 || len(p.n.All()) != 0 {
		t.Errorf("a new net's Count answers %d, %d", way, lost)
	}
	p.nothing()
}

// P10.1: the chapter's example.
func TestExample(t *testing.T) {
	for i, want := range map[int]uint64{4: 1, -1: 2} {
		n := net.New()
		for k := range uint64(3) {
			if !n.Send(api.Letter{Index: k}) {
				t.Fatal("Send answers false")
			}
		}
		if x, ok := n.Take(i); !ok || x.Index != want {
			t.Errorf("Take(%d) answers letter %d, %v; want letter %d", i, x.Index, ok, want)
		}
		if way, lost := n.Count(); way != 2 || lost != 0 {
			t.Errorf("behind Take(%d) Count answers %d, %d", i, way, lost)
		}
	}
}

// P10.1, rule 7: what a nil net answers; and P0.
func TestNil(t *testing.T) {
	var n *net.Net
	for _, i := range numbers(5) {
		if n.Send(numbered(7)) {
			t.Error("Send answers true")
		}
		if x, ok := n.Take(i); ok || !reflect.DeepEqual(x, api.Letter{}) {
			t.Errorf("Take(%d) answers %s, %v", i, brief(x), ok)
		}
		if n.Lose(i) || n.Double(i) {
			t.Errorf("Lose(%d) or Double(%d) answers true", i, i)
		}
		if way, lost := n.Count(); way != 0 || lost != 0 || len(n.All()) != 0 {
			t.Errorf("Count answers %d, %d, and All %d letters", way, lost, len(n.All()))
		}
	}
}

// P10.1: the letter that a number means, of any number of letters: Take, Lose and Double have that one, and leave the others in their order.
func TestLetterMeant(t *testing.T) {
	for _, letters := range []int{1, 2, 3, 4, 5, 7, 8, 100, 255, 256} {
		for _, i := range numbers(letters) {
			p := filled(t, letters)
			if _, ok := p.take(i); !ok {
				t.Fatalf("Take(%d) of %d letters answers false", i, letters)
			}
			p.told()
			p = filled(t, letters)
			if !p.lose(i) {
				t.Fatalf("Lose(%d) of %d letters answers false", i, letters)
			}
			p.told()
			p = filled(t, letters)
			if p.double(i) != (letters < many) {
				t.Fatalf("Double(%d) of %d letters answers %v", i, letters, letters == many)
			}
			p.told()
		}
	}
}

// P10.1, P10.2: 256 letters are under way at most: one more, sent or doubled, is lost; the others stay, and one that goes leaves room for one.
func TestFull(t *testing.T) {
	p := newPair(t)
	for i := range many {
		if !p.send(numbered(i)) {
			t.Fatalf("Send of letter %d answers false", i)
		}
		p.told()
	}
	full := func() {
		t.Helper()
		for i := range 3 {
			if p.send(numbered(1000+i)) || p.double(i) {
				t.Fatal("more than 256 letters are under way")
			}
			p.told()
		}
	}
	full()
	if _, lost := p.n.Count(); lost != 6 {
		t.Errorf("behind 6 letters too many %d are lost", lost)
	}
	if _, ok := p.take(17); !ok || !p.send(numbered(2000)) {
		t.Error("a letter that was taken leaves no room")
	}
	p.told()
	full()
	if !p.lose(-1) || !p.double(40) {
		t.Error("a letter that was lost leaves no room")
	}
	p.told()
	full()
	if _, lost := p.n.Count(); lost != 19 {
		t.Errorf("behind 18 letters too many, and one that was lost, %d are lost", lost)
	}
	p.out()
}

// P10.1: one letter, doubled again and again: 256 of it are under way, each one by itself.
func TestDoubled(t *testing.T) {
	p := filled(t, 1)
	for i := range 300 {
		if p.double(i*7) != (i < many-1) {
			t.Fatalf("Double number %d answers %v", i, i >= many-1)
		}
		p.told()
	}
	if way, lost := p.n.Count(); way != many || lost != 45 {
		t.Errorf("Count answers %d, %d", way, lost)
	}
	p.out()
}

// P10.1: a letter that is doubled is behind all others, and stays where it was as well.
func TestDoubleIsBehind(t *testing.T) {
	p := filled(t, 3)
	p.double(0)
	p.told()
	p.send(numbered(3))
	for _, want := range []uint64{0, 1, 2, 0, 3} {
		if x, ok := p.take(0); !ok || x.Index != want {
			t.Errorf("Take(0) answers letter %d, %v; want letter %d", x.Index, ok, want)
		}
	}
	p.out()
}

// P10.1: letters that are alike are as many as were sent.
func TestAlike(t *testing.T) {
	p := newPair(t)
	for range 5 {
		p.send(numbered(3))
		p.send(api.Letter{})
		p.told()
	}
	p.take(2)
	p.lose(3)
	p.told()
	if way, lost := p.n.Count(); way != 8 || lost != 1 {
		t.Errorf("Count answers %d, %d", way, lost)
	}
	p.out()
}

// P10.1: any letter goes, and arrives as it was sent, whatever it says.
func TestAnyLetter(t *testing.T) {
	odd := api.Entry{Term: math.MaxUint64, Index: math.MaxUint64, Kind: math.MinInt, Data: "\x00\xff"}
	letters := []api.Letter{
		{},
		{Kind: 1}, {Kind: -1}, {Kind: 10}, {Kind: math.MinInt}, {Kind: math.MaxInt},
		{From: 6}, {From: -1}, {From: math.MaxInt}, {To: 203}, {To: math.MinInt},
		{Term: 1}, {Term: math.MaxUint64}, {Index: math.MaxUint64}, {Prev: math.MaxUint64}, {Commit: math.MaxUint64},
		{Ok: true}, {Data: "\x00"}, {Data: string(make([]byte, api.MaxRecord+1))},
		{Entries: []api.Entry{}}, {Entries: []api.Entry{{}}}, {Entries: []api.Entry{odd, {}, odd}}, {Entries: make([]api.Entry, 5*api.MaxBatch)},
		{Kind: 3, From: 1, To: 2, Term: 3, Index: 4, Prev: 5, Commit: 6, Ok: true, Entries: []api.Entry{{Term: 7, Index: 8, Kind: 1, Data: "x"}}, Data: "y"},
	}
	p := newPair(t)
	for _, x := range letters {
		if !p.send(x) {
			t.Errorf("Send of %s answers false", brief(x))
		}
		p.told()
	}
	for i := range letters {
		p.double(i)
		p.told()
	}
	for _, want := range slices.Concat(letters, letters) {
		if x, ok := p.take(0); !ok || !same(x, want) {
			t.Errorf("%s arrives as %s, %v", brief(want), brief(x), ok)
		}
	}
	p.out()
}

// P10.1: all short runs of calls.
func TestAllShort(t *testing.T) {
	calls := []func(p *pair, i int){
		func(p *pair, i int) { p.send(numbered(i)) },
		func(p *pair, _ int) { p.take(0) }, func(p *pair, _ int) { p.take(-1) }, func(p *pair, _ int) { p.take(4) },
		func(p *pair, _ int) { p.lose(0) }, func(p *pair, _ int) { p.lose(-2) },
		func(p *pair, _ int) { p.double(0) }, func(p *pair, _ int) { p.double(5) },
	}
	const length = 4
	runs := 1
	for range length {
		runs *= len(calls)
	}
	for _, start := range []int{0, 1, 3, many - 2} { // ahead of the limit too
		for run := range runs {
			p := newPair(t)
			for i := range start {
				p.m.send(numbered(i))
				p.n.Send(numbered(i))
			}
			for left, i := run, 0; i < length; i++ {
				calls[left%len(calls)](p, 1000+i)
				left /= len(calls)
			}
			p.told()
		}
	}
}

// P10.1: long runs of calls that look like chance.
func TestLongRuns(t *testing.T) {
	for seed := range 12 {
		r := draws(100 + seed)
		p := filled(t, []int{0, 5, 250, 256}[seed%4])
		for i := range 1500 {
			switch k := r.IntN(10); {
			case k < 3+seed%2: // half of the runs fill up, the others run dry
				p.send(numbered(i))
			case k < 5+seed%2:
				p.double(anyNumber(r))
			case k < 7:
				p.lose(anyNumber(r))
			default:
				p.take(anyNumber(r))
			}
			p.told()
		}
		p.out()
	}
}

// account is what came of letters, by their numbers, as their sender sees it.
type account struct {
	sent, taken, lost map[uint64]int
}

// missing: the number of the one letter that was there before, and isn't now.
func missing(before, now []api.Letter) (uint64, bool) {
	left := map[uint64]int{}
	for _, x := range before {
		left[x.Index]++
	}
	for _, x := range now {
		left[x.Index]--
	}
	for index, k := range left {
		if k == 1 && len(before) == len(now)+1 {
			return index, true
		}
	}
	return 0, false
}

// double: a letter that Double sends counts as one that was sent.
func (a *account) double(n *net.Net, i int) {
	before := n.All()
	ok := n.Double(i)
	if len(before) == 0 {
		return
	}
	index := before[((i%len(before))+len(before))%len(before)].Index
	a.sent[index]++
	if !ok {
		a.lost[index]++
	}
}

// held tells whether each letter that was sent is under way, was taken, or is lost, and none twice.
func (a *account) held(n *net.Net) bool {
	all := map[uint64]int{}
	for _, x := range n.All() {
		all[x.Index]++
	}
	lost, way := 0, 0
	for index, k := range a.sent {
		if k != all[index]+a.taken[index]+a.lost[index] {
			return false
		}
		lost += a.lost[index]
		way += all[index]
	}
	w, l := n.Count()
	return w == way && l == lost && way == len(n.All())
}

// P10.2: each letter that was sent, or doubled, is under way, was taken, or is lost.
func TestWhatCameOfEach(t *testing.T) {
	for seed := range 8 {
		r := draws(200 + seed)
		n := net.New()
		a := &account{map[uint64]int{}, map[uint64]int{}, map[uint64]int{}}
		for i := range uint64(1500) {
			switch k := r.IntN(8); {
			case k < 4:
				a.sent[i]++
				if !n.Send(api.Letter{Index: i}) {
					a.lost[i]++
				}
			case k < 5+seed%2:
				a.double(n, anyNumber(r))
			case k < 6:
				before := n.All()
				if n.Lose(anyNumber(r)) {
					index, ok := missing(before, n.All())
					if !ok {
						t.Fatal("Lose loses another number of letters than one")
					}
					a.lost[index]++
				}
			default:
				if x, ok := n.Take(anyNumber(r)); ok {
					a.taken[x.Index]++
				}
			}
			if !a.held(n) {
				t.Fatalf("seed %d: behind call %d not each letter is under way, taken, or lost", seed, i)
			}
		}
	}
}

// Rules 2 and 3: what answers false has changed nothing but how many are lost; Count and All change nothing.
func TestAsking(t *testing.T) {
	p := filled(t, 20)
	for range 100 {
		p.told()
	}
	p.out()
	p.lose(0)
	p.double(0)
	p.take(0)
	p.told()
}

// Rule 4: what is handed to Send is not changed, the room behind its entries neither, and not kept: whoever changes it behind that changes no letter.
func TestHandedIn(t *testing.T) {
	p := newPair(t)
	room := make([]api.Entry, 6)
	for i := range room {
		room[i] = api.Entry{Term: uint64(i), Index: 9, Kind: 1, Data: "x"}
	}
	was := slices.Clone(room)
	x := api.Letter{Kind: 3, Entries: room[:3]}
	for i := range many + 2 { // those that are lost, too
		p.send(x)
		p.double(i)
	}
	p.take(0)
	p.told()
	if !slices.Equal(room, was) || len(x.Entries) != 3 {
		t.Error("Send changes what it is handed")
	}
	for i := range room {
		room[i] = api.Entry{Data: "other"}
	}
	p.told()
	p.out()
}

// spoil changes all of a letter's entries, and the room behind them.
func spoil(x api.Letter) {
	l := x.Entries[:cap(x.Entries)]
	for i := range l {
		l[i] = api.Entry{Term: 77, Data: "spoiled"}
	}
}

// Rule 4: what All and Take answer is new memory, and no two lists of an answer share any: of a letter that was doubled neither.
func TestAnswersAreNew(t *testing.T) {
	p := newPair(t)
	for i := range 12 {
		p.send(numbered(i))
		p.double(i)
		p.double(-1)
	}
	for i := range len(p.m.letters) {
		l := p.n.All()
		spoil(l[i])
		for k, x := range l {
			if k != i && !same(x, p.m.letters[k]) {
				t.Fatalf("letters %d and %d of All share memory", i, k)
			}
		}
		p.told()
		for k := range l[:cap(l)] {
			l[:cap(l)][k] = api.Letter{Data: "spoiled"}
		}
		p.told()
	}
	for len(p.m.letters) > 0 {
		all := p.n.All()
		x, _ := p.take(1)
		spoil(x)
		p.told()
		if k := 1 % len(all); !same(all[k], numbered(int(x.Index))) {
			t.Fatal("what All and Take answer share memory")
		}
	}
	p.out()
}

// Rule 8: what one net answers doesn't hang on another one.
func TestApart(t *testing.T) {
	p, q := newPair(t), newPair(t)
	p.send(numbered(1))
	q.told()
	q.lose(0)
	for i := range many + 1 {
		q.send(numbered(i))
	}
	p.told()
	p.double(0)
	p.lose(0)
	q.told()
	p.told()
	q.out()
	p.out()
}
