package wheel_test

import (
	"math"
	"math/rand/v2"
	"slices"
	"testing"

	"tontine/api"
	"tontine/wheel"
)

// most is the greatest delay, and many is how many timers there may be.
const (
	most = 1048576
	many = 64
)

// one is a timer by the words.
type one struct {
	id  int
	due uint64
}

// model is a wheel by the chapter's words: a time, and its timers in the order in which they were set.
type model struct {
	now    uint64
	timers []one
}

func (m *model) at(id int) int {
	return slices.IndexFunc(m.timers, func(x one) bool { return x.id == id })
}

func (m *model) set(id, delay int) api.Errno {
	if delay < 1 || delay > most {
		return api.ErrArg
	}
	if m.at(id) < 0 && len(m.timers) == many {
		return api.ErrFull
	}
	m.stop(id)
	m.timers = append(m.timers, one{id, m.now + uint64(delay)})
	return api.OK
}

func (m *model) stop(id int) bool {
	i := m.at(id)
	if i < 0 {
		return false
	}
	m.timers = append(slices.Clone(m.timers[:i]), m.timers[i+1:]...)
	return true
}

func (m *model) due() uint64 {
	least := uint64(0)
	for _, x := range m.timers {
		if d := x.due - m.now; least == 0 || d < least {
			least = d
		}
	}
	return least
}

func (m *model) tick() []int {
	m.now++
	var ids []int
	var left []one
	for _, x := range m.timers {
		if x.due == m.now {
			ids = append(ids, x.id)
		} else {
			left = append(left, x)
		}
	}
	m.timers = left
	return ids
}

// pair is a wheel and its model, which are called alike.
type pair struct {
	t *testing.T
	w *wheel.Wheel
	m *model
}

func newPair(t *testing.T) *pair { return &pair{t: t, w: wheel.New(), m: &model{}} }

// told holds what a wheel tells of itself to the words.
func (p *pair) told() {
	p.t.Helper()
	if p.w.Now() != p.m.now || p.w.Len() != len(p.m.timers) || p.w.Due() != p.m.due() {
		p.t.Fatalf("Now, Len, Due answer %d, %d, %d; want %d, %d, %d", p.w.Now(), p.w.Len(), p.w.Due(), p.m.now, len(p.m.timers), p.m.due())
	}
}

func (p *pair) set(id, delay int) api.Errno {
	p.t.Helper()
	want := p.m.set(id, delay)
	if got := p.w.Set(id, delay); got != want {
		p.t.Fatalf("at %d Set(%d, %d) answers %d, want %d", p.m.now, id, delay, got, want)
	}
	return want
}

func (p *pair) stop(id int) bool {
	p.t.Helper()
	want := p.m.stop(id)
	if got := p.w.Stop(id); got != want {
		p.t.Fatalf("at %d Stop(%d) answers %v", p.m.now, id, got)
	}
	return want
}

func (p *pair) tick() []int {
	p.t.Helper()
	want := p.m.tick()
	got := p.w.Tick()
	if !slices.Equal(got, want) {
		p.t.Fatalf("the Tick to %d answers %v, want %v", p.m.now, got, want)
	}
	return got
}

// ticks goes on so many times; where nothing is due, the model needs no list.
func (p *pair) ticks(n int) {
	p.t.Helper()
	next := p.m.due()
	for range n {
		if next != 1 {
			p.m.now++
			if l := p.w.Tick(); len(l) > 0 {
				p.t.Fatalf("the Tick to %d answers %v, want nothing", p.m.now, l)
			}
			next = max(next, 1) - 1
			continue
		}
		p.tick()
		p.told()
		next = p.m.due()
	}
	p.told()
}

// out goes on until no timer is left.
func (p *pair) out() {
	p.t.Helper()
	for len(p.m.timers) > 0 {
		p.ticks(int(p.m.due()))
	}
	p.told()
}

// draws gives numbers that look like chance and are the same each time.
func draws(seed int) *rand.Rand { return rand.New(rand.NewPCG(uint64(seed), 9)) }

// near draws a delay: small, or about a power of 2, or any.
func near(r *rand.Rand) int {
	switch r.IntN(4) {
	case 0:
		return 1 + r.IntN(8)
	case 1:
		return 1 + r.IntN(200)
	case 2:
		return min(max(1<<r.IntN(21)+r.IntN(5)-2, 1), most)
	}
	return 1 + r.IntN(1<<r.IntN(21))
}

// P9.1: a new wheel's time is 0, and it has no timers.
func TestNew(t *testing.T) {
	p := newPair(t)
	p.told()
	if p.stop(0) || p.stop(1) || len(p.tick()) > 0 {
		t.Error("a new wheel has a timer")
	}
	p.told()
	if p.w.Now() != 1 || p.w.Due() != 0 {
		t.Errorf("behind one Tick Now is %d, and Due %d", p.w.Now(), p.w.Due())
	}
}

// P9.1: the chapter's example.
func TestExample(t *testing.T) {
	w := wheel.New()
	if w.Set(1, 2) != api.OK || w.Set(2, 1) != api.OK {
		t.Fatal("Set answers an error")
	}
	if l := w.Tick(); !slices.Equal(l, []int{2}) {
		t.Errorf("the first Tick answers %v", l)
	}
	if w.Set(3, 1) != api.OK {
		t.Fatal("Set answers an error")
	}
	if l := w.Tick(); !slices.Equal(l, []int{1, 3}) {
		t.Errorf("the second Tick answers %v", l)
	}
	if w.Now() != 2 || w.Len() != 0 || w.Due() != 0 {
		t.Errorf("Now, Len, Due answer %d, %d, %d", w.Now(), w.Len(), w.Due())
	}
}

// P9.1, rule 7: what a nil wheel answers; and P0.
func TestNil(t *testing.T) {
	var w *wheel.Wheel
	for _, x := range []int{math.MinInt, -1, 0, 1, 5, most, most + 1, math.MaxInt} {
		if e := w.Set(1, x); e != api.ErrArg {
			t.Errorf("Set(1, %d) answers %d", x, e)
		}
		if w.Stop(x) {
			t.Errorf("Stop(%d) answers true", x)
		}
	}
	if l := w.Tick(); w.Now() != 0 || w.Len() != 0 || w.Due() != 0 || len(l) != 0 {
		t.Errorf("Now, Len, Due, Tick answer %d, %d, %d, %v", w.Now(), w.Len(), w.Due(), l)
	}
}

// P9.1, rules 3 and 5: a delay is 1 to MaxDelay; of another one ErrArg, and nothing has changed, the timer of that number neither.
func TestSetDelay(t *testing.T) {
	p := newPair(t)
	p.ticks(3)
	wrong := []int{0, -1, -2, -64, math.MinInt, math.MinInt + 1, math.MinInt32, most + 1, most + 2, 2 * most, 1<<32 + 1, 1 << 32, 1<<62 + 5, math.MaxInt, math.MaxInt - 2}
	for _, delay := range wrong {
		if e := p.set(7, delay); e != api.ErrArg {
			t.Errorf("Set(7, %d) answers %d", delay, e)
		}
		p.told()
	}
	p.set(7, 2)
	for _, delay := range wrong {
		if e := p.set(7, delay); e != api.ErrArg {
			t.Errorf("Set(7, %d) answers %d", delay, e)
		}
		p.told()
	}
	for _, delay := range []int{1, 2, most - 1, most} {
		if e := p.set(8, delay); e != api.OK {
			t.Errorf("Set(8, %d) answers %d", delay, e)
		}
		p.told()
	}
	p.out()
}

// P9.1: a timer's number is any.
func TestAnyNumber(t *testing.T) {
	p := newPair(t)
	ids := []int{0, -1, math.MinInt, math.MaxInt, 1, 64, 65, 128, -64, 1 << 32, 1<<32 + 1, math.MinInt32, math.MaxInt32}
	for i, id := range ids {
		if e := p.set(id, 100*(i%3)+1); e != api.OK {
			t.Errorf("Set of %d answers %d", id, e)
		}
		p.told()
	}
	for _, id := range ids[:3] {
		if !p.stop(id) || p.stop(id) {
			t.Errorf("Stop of %d", id)
		}
		p.told()
	}
	p.out()
}

// P9.1, rule 1: with 64 timers another number is ErrFull, behind ErrArg; one that is there is set anew; one that goes leaves room.
func TestFull(t *testing.T) {
	for _, far := range []int{1, 64, 70, 8000, 8192, 9000, most} {
		p := newPair(t)
		for i := range many {
			if e := p.set(i, far-i*(far/100)); e != api.OK {
				t.Fatalf("Set of number %d answers %d", i, e)
			}
			p.told()
		}
		for _, id := range []int{64, -1, math.MaxInt} {
			if e := p.set(id, 1); e != api.ErrFull {
				t.Errorf("Set of one more answers %d", e)
			}
			if e := p.set(id, 0); e != api.ErrArg {
				t.Errorf("Set of one more, by 0, answers %d", e)
			}
			if e := p.set(id, most+1); e != api.ErrArg {
				t.Errorf("Set of one more, by %d, answers %d", most+1, e)
			}
			p.told()
		}
		if p.set(0, 0) != api.ErrArg || p.set(0, 3) != api.OK || p.set(63, most) != api.OK {
			t.Error("a timer that is there can't be set anew")
		}
		p.told()
		if !p.stop(40) || p.set(99, 5) != api.OK || p.set(40, 5) != api.ErrFull {
			t.Error("a timer that was stopped leaves no room, or too much")
		}
		for gone := 0; gone == 0; {
			gone = len(p.tick())
		}
		for i := 0; len(p.m.timers) < many; i++ {
			if e := p.set(1000+i, 7); e != api.OK {
				t.Errorf("Set behind a Tick answers %d", e)
			}
		}
		if e := p.set(2000, 7); e != api.ErrFull {
			t.Errorf("Set behind a Tick answers %d, want %d", e, api.ErrFull)
		}
		p.told()
		p.out()
	}
}

// P9.1: all short runs of calls, over three numbers and three delays.
func TestAllShort(t *testing.T) {
	calls := []func(p *pair){
		func(p *pair) { p.set(1, 1) }, func(p *pair) { p.set(1, 2) }, func(p *pair) { p.set(2, 1) }, func(p *pair) { p.set(2, 3) },
		func(p *pair) { p.set(3, 2) }, func(p *pair) { p.stop(1) }, func(p *pair) { p.stop(2) }, func(p *pair) { p.tick() },
	}
	const length = 5
	runs := 1
	for range length {
		runs *= len(calls)
	}
	for _, start := range []int{0, 61} { // ahead of the first ring's end too
		for run := range runs {
			p := newPair(t)
			p.ticks(start)
			for left, i := run, 0; i < length; i++ {
				calls[left%len(calls)](p)
				p.told()
				left /= len(calls)
			}
			p.out()
		}
	}
}

// P9.2: each delay up to two turns of the second ring, 64 of them at one time: a timer is due when just that has gone by.
func TestDelays(t *testing.T) {
	for first := 1; first <= 2*8192+64; first += many {
		p := newPair(t)
		p.ticks(first % 191)
		for i := range many {
			p.set(i, first+i)
		}
		p.out()
	}
}

// P9.2: delays at each edge of the rings, set at times at each edge of them, up to behind the whole wheel's turn.
func TestEdges(t *testing.T) {
	p := newPair(t)
	var delays []int
	for _, d := range []int{1, 64, 128, 8192, 16384, most / 2, most} {
		for _, x := range []int{d - 2, d - 1, d, d + 1, d + 63, d + 64, d + 65} {
			if x > 0 && x <= most && !slices.Contains(delays, x) {
				delays = append(delays, x)
			}
		}
	}
	for _, start := range []int{0, 1, 62, 63, 64, 65, 127, 8127, 8128, 8190, 8191, 8192, 8193, most - 1, most, most + 1, 1 << 21, 1<<21 + 1, 3 << 20} {
		for now := int(p.m.now); now < start; now = int(p.m.now) {
			p.ticks(start - now)
		}
		for i, delay := range delays {
			if e := p.set(start*100+i, delay); e != api.OK && e != api.ErrFull {
				t.Fatalf("Set answers %d", e)
			}
			p.told()
		}
	}
	p.out()
}

// P9.2: the clock's whole turns, those of the last ring too: whatever the delay, a timer set at any of these times is due when it has gone by.
func TestLongClock(t *testing.T) {
	for _, back := range []int{1, 2, 63, 64, 65, 8191, 8192, 8193, most / 2, most - 1, most} {
		p := newPair(t)
		p.ticks(1<<21 - back)
		for i, delay := range []int{1, 2, back - 1, back, back + 1, back + 63, back + 64, back + 65, back + 8192, back + 8193, most - 1, most} {
			p.set(i, delay)
		}
		p.told()
		p.out()
	}
}

// P9.1: those that are due at one time come in the order in which they were set, near or far; set anew is set behind all.
func TestOrder(t *testing.T) {
	r := draws(1)
	for _, due := range []int{5, 63, 64, 65, 100, 128, 8191, 8192, 8193, 8256, 9000, 16384, 100000, most, 1 << 21, 1<<21 + 70} {
		p := newPair(t)
		for id := 0; int(p.m.now) < due-1; {
			if due-int(p.m.now) <= most && id < many {
				p.set(many-id, due-int(p.m.now)) // later ones have lesser numbers
				id++
			}
			if id > 3 && r.IntN(3) == 0 {
				p.set(many-r.IntN(id), due-int(p.m.now))
			}
			left := due - 1 - int(p.m.now)
			if left > most { // no timer can be set so far ahead
				p.ticks(left - most + r.IntN(50))
				continue
			}
			p.ticks(min(left, 1+r.IntN(max(left/8, 1))))
		}
		p.told()
		if l := p.tick(); len(l) < 3 || p.w.Len() != 0 {
			t.Errorf("due at %d: %v, and %d are left", due, l, p.w.Len())
		}
	}
}

// P9.1: a timer that is set anew is due by its new delay alone, whether that is sooner or later; one that was stopped isn't due.
func TestAnewAndStop(t *testing.T) {
	delays := []int{1, 2, 63, 64, 65, 8191, 8192, 8193, 70000}
	for _, a := range delays {
		for _, b := range delays {
			for _, between := range []int{0, 1, 62, 64} {
				if between >= a {
					continue
				}
				p := newPair(t)
				p.set(1, a)
				p.set(2, a)
				p.set(3, a)
				p.ticks(between)
				p.set(1, b)
				p.told()
				if !p.stop(2) || p.stop(2) {
					t.Fatal("Stop of a timer")
				}
				p.told()
				p.out()
				if p.stop(1) || p.stop(3) {
					t.Fatal("a timer that was due is there still")
				}
			}
		}
	}
}

// P9.1: long runs of calls that look like chance.
func TestLongRuns(t *testing.T) {
	for seed := range 60 {
		r := draws(100 + seed)
		p := newPair(t)
		p.ticks([]int{0, 50, 8100, 1<<21 - 300}[seed%4])
		ids := []int{3, 20, 70}[seed%3]
		for range 3000 {
			switch r.IntN(8) {
			case 0, 1, 2:
				p.set(r.IntN(ids), near(r))
			case 3:
				p.set(r.IntN(ids), r.IntN(5)-2)
			case 4:
				p.stop(r.IntN(ids))
			case 5:
				p.ticks(r.IntN(1 + 1<<r.IntN(10)))
			default:
				p.tick()
			}
			p.told()
		}
		p.out()
	}
}

// P9.2: as a timer's owner sees it: each number that Tick tells was set, and wasn't told, stopped or set anew since; and each one is told at its time.
func TestDueJustOnce(t *testing.T) {
	r := draws(2)
	w := wheel.New()
	at := map[int]uint64{} // when each number is to be told
	told := 0
	for now := uint64(1); now <= 40000; now++ {
		if id := r.IntN(80); len(at) < many {
			delay := near(r)%20000 + 1
			if e := w.Set(id, delay); e != api.OK {
				t.Fatalf("Set answers %d", e)
			}
			at[id] = now - 1 + uint64(delay)
		}
		if id := r.IntN(800); w.Stop(id) {
			delete(at, id)
		}
		for _, id := range w.Tick() {
			if at[id] != now {
				t.Fatalf("%d is told at %d, and due at %d", id, now, at[id])
			}
			delete(at, id)
			told++
		}
		for id, due := range at {
			if due <= now {
				t.Fatalf("%d was due at %d, and isn't told at %d", id, due, now)
			}
		}
		if w.Len() != len(at) {
			t.Fatalf("Len answers %d, want %d", w.Len(), len(at))
		}
	}
	if told < 1000 {
		t.Errorf("only %d were told", told)
	}
}

// Rule 8: what one wheel answers doesn't hang on another one.
func TestApart(t *testing.T) {
	p, q := newPair(t), newPair(t)
	p.set(1, 5)
	q.told()
	q.ticks(3)
	q.set(1, 1)
	p.told()
	q.tick()
	p.told()
	p.out()
	q.told()
}

// Rule 4: what Tick answers is new memory.
func TestAnswersAreNew(t *testing.T) {
	p := newPair(t)
	for i := range 40 {
		p.set(i, 2+i%3)
	}
	for range 5 {
		p.m.tick()
		l := p.w.Tick()
		for i := range l[:cap(l)] {
			l[:cap(l)][i] = -7
		}
		p.told()
		p.set(50, 1)
		p.tick()
		p.told()
	}
	p.out()
}

// Due and Len and Stop of what isn't there change nothing.
func TestAsking(t *testing.T) {
	p := newPair(t)
	for i, delay := range []int{3, 70, 9000, most} {
		p.set(i, delay)
	}
	for range 100 {
		p.told()
		p.stop(55)
	}
	p.out()
}
