package saga_test

import (
	"fmt"
	"math"
	"math/big"
	"math/rand/v2"
	"reflect"
	"slices"
	"strings"
	"testing"

	"tontine/api"
	"tontine/pack"
	"tontine/saga"
)

// The chapter's states.
const (
	runs   = 1
	back   = 2
	done   = 3
	undone = 4
	stuck  = 5
)

// A place is what a saga has beside its steps.
type place struct{ State, Cursor, Failed int }

// An outcome is what is told of a step.
type outcome struct {
	step  int
	taken bool
	try   int
	ok    bool
}

// at: the saga of these steps at a place.
func at(l []api.Step, p place) api.Saga {
	return api.Saga{Steps: l, State: p.State, Cursor: p.Cursor, Failed: p.Failed}
}

func placeOf(s api.Saga) place { return place{s.State, s.Cursor, s.Failed} }

// defined: are steps a definition, by layer 13's words?
func defined(l []api.Step) bool {
	for _, x := range l {
		if !slices.Contains([]int{0, 1, 2, 3}, x.Part) || !slices.Contains([]int{1, 2, 3, 4, 5, 6, 7, 8, 9}, x.Budget) || x.Name == "" || len(x.Name) > 16 {
			return false
		}
	}
	return len(l) != 0 && len(l) <= 64
}

// placesAt: where a saga can be that waits at a step, or is stuck there, by the chapter's words, one by one.
func placesAt(l []api.Step, c int) []place {
	all := []place{{runs, c, 0}, {stuck, c, l[c].Budget}}
	for f := range l[c].Budget {
		all = append(all, place{back, c, f})
	}
	return all
}

// places: where a saga of these steps can be.
func places(l []api.Step) []place {
	all := []place{{done, len(l), 0}, {undone, 0, 0}}
	for c := range l {
		all = append(all, placesAt(l, c)...)
	}
	return all
}

// canBe: can it, by the chapter's words?
func canBe(s api.Saga) bool {
	p, n := placeOf(s), len(s.Steps)
	if !defined(s.Steps) {
		return false
	}
	if p == (place{done, n, 0}) || p == (place{undone, 0, 0}) {
		return true
	}
	return p.Cursor >= 0 && p.Cursor < n && slices.Contains(placesAt(s.Steps, p.Cursor), p)
}

// takenFrom: the place of what is taken back from step k.
func takenFrom(k int) place {
	if k < 0 {
		return place{undone, 0, 0}
	}
	return place{back, k, 0}
}

// follows: where an outcome brings a saga that can be there; false, if it doesn't want that.
func follows(l []api.Step, p place, o outcome) (place, bool) {
	behind := map[outcome]place{} // of all that is wanted there: what went well at the try that is told, what failed at the one at hand
	switch p.State {
	case runs:
		behind[outcome{p.Cursor, false, o.try, true}] = place{runs, p.Cursor + 1, 0}
		if p.Cursor == len(l)-1 {
			behind[outcome{p.Cursor, false, o.try, true}] = place{done, len(l), 0}
		}
		behind[outcome{p.Cursor, false, 0, false}] = takenFrom(p.Cursor - 1)
	case back:
		behind[outcome{p.Cursor, true, o.try, true}] = takenFrom(p.Cursor - 1)
		behind[outcome{p.Cursor, true, p.Failed, false}] = place{back, p.Cursor, p.Failed + 1}
		if p.Failed == l[p.Cursor].Budget-1 {
			behind[outcome{p.Cursor, true, p.Failed, false}] = place{stuck, p.Cursor, p.Failed + 1}
		}
	}
	q, ok := behind[o]
	return q, ok
}

// brief: what a test tells of anything, which may be much.
func brief(x any) string {
	s := fmt.Sprintf("%+q", fmt.Sprintf("%+v", x))
	return s[:min(len(s), 400)]
}

// same: are two sagas the same? No steps and nil are.
func same(a, b api.Saga) bool { return placeOf(a) == placeOf(b) && slices.Equal(a.Steps, b.Steps) }

// isZero: is it nothing at all?
func isZero(s api.Saga) bool { return len(s.Steps) == 0 && placeOf(s) == place{} }

// holdAsked holds Sound, Ended, Wants and Abort to the words at any saga.
func holdAsked(t *testing.T, s api.Saga) bool {
	t.Helper()
	p := placeOf(s)
	can := canBe(s)
	ended := p.State == done || p.State == undone || p.State == stuck
	if saga.Sound(s) != can {
		t.Fatalf("Sound answers %v of %s", !can, brief(s))
	}
	if saga.Ended(s) != ended {
		t.Fatalf("Ended answers %v of %s", !ended, brief(s))
	}
	step, taken, waits := saga.Wants(s)
	if can && !ended {
		if step != p.Cursor || taken != (p.State == back) || !waits {
			t.Fatalf("Wants answers %d, %v, %v of %s", step, taken, waits, brief(s))
		}
	} else if step != 0 || taken || waits {
		t.Fatalf("Wants answers %d, %v, %v of %s, that waits for nothing", step, taken, waits, brief(s))
	}
	want := s
	if can && p.State == runs {
		want = at(s.Steps, place{back, p.Cursor, 0})
	}
	if got, ok := saga.Abort(s); !same(got, want) || ok != (can && p.State == runs) {
		t.Fatalf("Abort answers %s, %v of %s", brief(got), ok, brief(s))
	}
	return can
}

// holdOutcome holds Outcome to the words at any saga and outcome, and tells whether it is wanted.
func holdOutcome(t *testing.T, s api.Saga, o outcome) bool {
	t.Helper()
	want, wanted := s, false
	if canBe(s) {
		if p, ok := follows(s.Steps, placeOf(s), o); ok {
			want, wanted = at(s.Steps, p), true
		}
	}
	got, ok := saga.Outcome(s, o.step, o.taken, o.try, o.ok)
	if !same(got, want) || ok != wanted {
		t.Fatalf("Outcome answers %s, %v of %s at %+v, want %s, %v", brief(got), ok, brief(s), o, brief(want), wanted)
	}
	return ok
}

// outcomes: all at these steps and tries.
func outcomes(steps, tries []int) []outcome {
	var l []outcome
	for _, step := range steps {
		for _, try := range tries {
			for _, taken := range []bool{false, true} {
				l = append(l, outcome{step, taken, try, true}, outcome{step, taken, try, false})
			}
		}
	}
	return l
}

// from: the numbers from a up to b.
func from(a, b int) []int {
	var l []int
	for i := a; i <= b; i++ {
		l = append(l, i)
	}
	return l
}

// far: numbers that lie far from all that can be.
func far() []int {
	return []int{math.MinInt, math.MinInt + 1, math.MinInt32, -257, -256, -255, 63, 64, 65, 255, 256, 257, 258, 1 << 16, math.MaxInt32, 1 << 32, 1<<32 + 1, 1<<32 + 2, math.MaxInt - 1, math.MaxInt}
}

// steps: one of each budget, each unlike those beside it.
func steps(budgets ...int) []api.Step {
	var l []api.Step
	for i, b := range budgets {
		l = append(l, api.Step{Part: i % 4, Name: "step" + string(rune('a'+i%26)), Budget: b})
	}
	return l
}

// many: so many steps, of budgets 1 to 9.
func many(n int) []api.Step {
	var l []int
	for i := range n {
		l = append(l, 1+i*4%9)
	}
	return steps(l...)
}

// samples: small definitions, and those at the edges.
func samples() [][]api.Step {
	return [][]api.Step{
		steps(1), steps(2), steps(9), steps(1, 1), steps(1, 3), steps(3, 1), steps(9, 9), steps(2, 1, 3), steps(1, 9, 1, 5),
		{{Part: 3, Name: strings.Repeat("n", 16), Budget: 9}}, {{Name: "\x00", Budget: 1}, {Part: 3, Name: "\xff", Budget: 4}},
	}
}

// wrong: steps that are no definition.
func wrong() [][]api.Step {
	l := [][]api.Step{nil, {}, many(65), many(66), many(200)}
	for _, x := range []api.Step{{}, {Part: -1, Name: "a", Budget: 1}, {Part: 4, Name: "a", Budget: 1}, {Name: "", Budget: 1}, {Name: strings.Repeat("n", 17), Budget: 1}, {Name: "a", Budget: 0}, {Name: "a", Budget: -1}, {Name: "a", Budget: 10}, {Part: math.MinInt, Name: "a", Budget: math.MaxInt}} {
		l = append(l, []api.Step{x}, append(steps(2), x), append([]api.Step{x}, steps(3)...), append(many(63), x), append(many(64), x))
	}
	return l
}

// made: New's saga of a definition.
func made(t *testing.T, l []api.Step) api.Saga {
	t.Helper()
	s, e := saga.New(l)
	if e != api.OK || !same(s, at(l, place{runs, 0, 0})) {
		t.Fatalf("New answers %s, %d of %s", brief(s), int(e), brief(l))
	}
	return s
}

// draws gives numbers that look like chance and are the same each time.
func draws(seed int) *rand.Rand { return rand.New(rand.NewPCG(uint64(seed), 14)) }

// anyDefinition draws a definition of up to so many steps.
func anyDefinition(r *rand.Rand, most int) []api.Step {
	l := make([]api.Step, 1+r.IntN(most))
	for i := range l {
		b := make([]byte, 1+r.IntN(16))
		for k := range b {
			b[k] = byte(r.Uint32() >> r.IntN(32))
		}
		l[i] = api.Step{Part: r.IntN(4), Name: string(b), Budget: 1 + r.IntN(9)}
	}
	return l
}

// P14.1: the chapter's example.
func TestExample(t *testing.T) {
	s := made(t, steps(1, 1))
	for i, c := range []struct {
		o    outcome
		want place
	}{
		{outcome{0, false, 0, true}, place{runs, 1, 0}},
		{outcome{1, false, 0, false}, place{back, 0, 0}},
		{outcome{0, true, 0, true}, place{undone, 0, 0}},
	} {
		var ok bool
		if s, ok = saga.Outcome(s, c.o.step, c.o.taken, c.o.try, c.o.ok); !ok || placeOf(s) != c.want {
			t.Fatalf("outcome %d: %v, %+v, want %+v", i, ok, placeOf(s), c.want)
		}
	}
}

// P14.1: runs written out by hand, move by move: + a doing went well, - it failed, * a taking back went well, ! it failed, a it is aborted.
func TestWrittenOut(t *testing.T) {
	for _, c := range []struct {
		l     []api.Step
		moves string
		want  []place
	}{
		{steps(1), "+", []place{{done, 1, 0}}},
		{steps(1), "-", []place{{undone, 0, 0}}},
		{steps(1), "a!", []place{{back, 0, 0}, {stuck, 0, 1}}},
		{steps(1), "a*", []place{{back, 0, 0}, {undone, 0, 0}}},
		{steps(9), "a!!!!!!!!!", []place{{back, 0, 0}, {back, 0, 1}, {back, 0, 2}, {back, 0, 3}, {back, 0, 4}, {back, 0, 5}, {back, 0, 6}, {back, 0, 7}, {back, 0, 8}, {stuck, 0, 9}}},
		{steps(9), "a!!!!!!!!*", []place{{back, 0, 0}, {back, 0, 1}, {back, 0, 2}, {back, 0, 3}, {back, 0, 4}, {back, 0, 5}, {back, 0, 6}, {back, 0, 7}, {back, 0, 8}, {undone, 0, 0}}},
		{steps(1, 1, 1), "+++", []place{{runs, 1, 0}, {runs, 2, 0}, {done, 3, 0}}},
		{steps(1, 1, 1), "++-**", []place{{runs, 1, 0}, {runs, 2, 0}, {back, 1, 0}, {back, 0, 0}, {undone, 0, 0}}},
		{steps(1, 1, 1), "++a***", []place{{runs, 1, 0}, {runs, 2, 0}, {back, 2, 0}, {back, 1, 0}, {back, 0, 0}, {undone, 0, 0}}},
		{steps(2, 3, 1), "++-!*!*", []place{{runs, 1, 0}, {runs, 2, 0}, {back, 1, 0}, {back, 1, 1}, {back, 0, 0}, {back, 0, 1}, {undone, 0, 0}}},
		{steps(2, 3, 1), "+a!!*!!", []place{{runs, 1, 0}, {back, 1, 0}, {back, 1, 1}, {back, 1, 2}, {back, 0, 0}, {back, 0, 1}, {stuck, 0, 2}}},
		{steps(2, 3, 1), "+a!!!", []place{{runs, 1, 0}, {back, 1, 0}, {back, 1, 1}, {back, 1, 2}, {stuck, 1, 3}}},
	} {
		s := made(t, c.l)
		for i, m := range c.moves {
			ok := false
			switch m {
			case 'a':
				s, ok = saga.Abort(s)
			case '+', '-':
				s, ok = saga.Outcome(s, s.Cursor, false, 0, m == '+')
			default:
				s, ok = saga.Outcome(s, s.Cursor, true, s.Failed, m == '*')
			}
			if !ok || placeOf(s) != c.want[i] || !slices.Equal(s.Steps, c.l) || !saga.Sound(s) {
				t.Fatalf("%s: move %d brings %s, %v, want %+v", c.moves, i, brief(s), ok, c.want[i])
			}
		}
	}
}

// P14.1: New takes just the definitions.
func TestNew(t *testing.T) {
	for n := 1; n <= 64; n++ {
		made(t, many(n))
	}
	for _, l := range samples() {
		made(t, l)
	}
	for _, l := range wrong() {
		if s, e := saga.New(l); e != api.ErrDef || !isZero(s) {
			t.Fatalf("New answers %s, %d of %s", brief(s), int(e), brief(l))
		}
	}
	r := draws(1)
	for range 2000 {
		made(t, anyDefinition(r, 64))
	}
}

// P14.1: Sound, Ended, Wants and Abort at all places within and around what can be.
func TestAllPlaces(t *testing.T) {
	for _, l := range samples() {
		can := 0
		for _, state := range from(-3, 9) {
			for _, cursor := range from(-3, len(l)+3) {
				for _, failed := range from(-3, 13) {
					if holdAsked(t, at(l, place{state, cursor, failed})) {
						can++
					}
				}
			}
		}
		want := 2 // done and undone
		for _, x := range l {
			want += x.Budget + 2
		}
		if can != want {
			t.Errorf("%s can be at %d places, want %d", brief(l), can, want)
		}
	}
}

// P14.1: Sound, Ended, Wants and Abort with numbers far from what can be, one at a time and all at once.
func TestFarPlaces(t *testing.T) {
	for _, l := range [][]api.Step{steps(1), steps(3, 9), many(64)} {
		for _, p := range places(l) {
			for _, i := range far() {
				holdAsked(t, at(l, place{i, p.Cursor, p.Failed}))
				holdAsked(t, at(l, place{p.State, i, p.Failed}))
				holdAsked(t, at(l, place{p.State, p.Cursor, i}))
				holdAsked(t, at(l, place{p.State, i, i}))
			}
		}
		for _, a := range far() {
			for _, b := range far() {
				for _, state := range []int{0, runs, back, done, undone, stuck, 6, a} {
					holdAsked(t, at(l, place{state, a, b}))
				}
			}
		}
	}
}

// P14.1: what has no definition can't be, and wants nothing, whatever else it says; but it may have ended.
func TestWrongSteps(t *testing.T) {
	for _, l := range wrong() {
		for _, state := range from(-1, 6) {
			for _, cursor := range []int{-1, 0, 1, 2, len(l) - 1, len(l), len(l) + 1} {
				for _, failed := range []int{-1, 0, 1, 9, 10} {
					s := at(l, place{state, cursor, failed})
					if holdAsked(t, s) {
						t.Fatalf("%s can be", brief(s))
					}
					for _, o := range outcomes([]int{cursor}, []int{failed}) {
						if holdOutcome(t, s, o) {
							t.Fatalf("%s wants %+v", brief(s), o)
						}
					}
				}
			}
		}
	}
	if holdAsked(t, api.Saga{}) {
		t.Error("no saga can be")
	}
}

// P14.1: Outcome at all places within and around what can be, of all steps and tries there.
func TestAllOutcomes(t *testing.T) {
	for _, l := range [][]api.Step{steps(1), steps(2), steps(1, 2), steps(3, 1), steps(2, 1, 3)} {
		wanted := 0
		all := outcomes(from(-1, len(l)+1), from(-1, 5))
		for _, state := range from(-1, 7) {
			for _, cursor := range from(-1, len(l)+1) {
				for _, failed := range from(-1, 5) {
					for _, o := range all {
						if holdOutcome(t, at(l, place{state, cursor, failed}), o) {
							wanted++
						}
					}
				}
			}
		}
		want := 0
		for _, x := range l {
			want += (7 + 1) * (1 + x.Budget) // of the doing, and of each taking back: 7 tries that went well, one that failed
		}
		if wanted != want {
			t.Errorf("%s wants %d outcomes, want %d", brief(l), wanted, want)
		}
	}
}

// P14.1: Outcome of each place that can be, of steps and tries that are far off.
func TestFarOutcomes(t *testing.T) {
	for _, l := range [][]api.Step{steps(1), steps(9), steps(9, 4), many(64)} {
		for _, p := range places(l) {
			s := at(l, p)
			tries := append(far(), -1, 0, 1, p.Failed-1, p.Failed, p.Failed+1, 9, 10)
			for _, o := range outcomes([]int{p.Cursor - 1, p.Cursor, p.Cursor + 1}, tries) {
				holdOutcome(t, s, o)
			}
			for _, o := range outcomes(far(), []int{p.Failed}) {
				holdOutcome(t, s, o)
			}
		}
	}
}

// P14.1: a failure counts only at the try that is at hand; what went well counts at any.
func TestTries(t *testing.T) {
	l := steps(3)
	for _, try := range append(far(), from(-10, 10)...) {
		for _, p := range []place{{runs, 0, 0}, {back, 0, 0}, {back, 0, 1}, {back, 0, 2}} {
			s := at(l, p)
			if _, ok := saga.Outcome(s, 0, p.State == back, try, true); !ok {
				t.Errorf("%+v: what went well at try %d isn't wanted", p, try)
			}
			if _, ok := saga.Outcome(s, 0, p.State == back, try, false); ok != (try == p.Failed) {
				t.Errorf("%+v: what failed at try %d is wanted: %v", p, try, ok)
			}
		}
	}
}

// P14.1: an outcome that comes twice counts once: what was wanted isn't wanted behind it, but a step's failure at another try.
func TestTwice(t *testing.T) {
	l := steps(2, 1, 3)
	for _, p := range places(l) {
		for _, o := range outcomes([]int{p.Cursor}, []int{p.Failed}) {
			s, ok := saga.Outcome(at(l, p), o.step, o.taken, o.try, o.ok)
			if !ok {
				continue
			}
			if again, ok := saga.Outcome(s, o.step, o.taken, o.try, o.ok); ok || !same(again, s) {
				t.Errorf("%+v: %+v counts twice", p, o)
			}
		}
	}
}

// A told is what a saga was told and wanted, one behind the other: + and - of doings, * and ! of takings back, a where it was aborted; each with its step.
type told []string

// ordered holds P14.2's words against what an ended saga was told.
func ordered(s api.Saga, h told) bool {
	var want told
	step := func(kind string, i int) string { return kind + fmt.Sprint(i) }
	k := 0
	for k < len(h) && h[k] == step("+", k) {
		want = append(want, h[k])
		k++
	}
	if s.State == done {
		return slices.Equal(h, want) && k == len(s.Steps) && s.Cursor == k
	}
	if k == len(h) || k >= len(s.Steps) {
		return false
	}
	first := k - 1
	want = append(want, step("-", k))
	if h[k] == step("a", k) {
		want[k], first = h[k], k
	}
	last := 0
	if s.State == stuck {
		last = s.Cursor
	}
	if first < last-1 {
		return false
	}
	for i := first; i >= last; i-- {
		failed := 0
		for len(want) < len(h) && h[len(want)] == step("!", i) {
			want = append(want, h[len(want)])
			failed++
		}
		if s.State == stuck && i == last {
			return slices.Equal(h, want) && failed == s.Steps[i].Budget && s.Failed == failed
		}
		if failed >= s.Steps[i].Budget {
			return false
		}
		want = append(want, step("*", i))
	}
	return s.State == undone && slices.Equal(h, want) && s.Failed == 0 && s.Cursor == 0
}

// holdEnd holds that an ended saga came to its end in order, soon enough, and that nothing changes it any more.
func holdEnd(t *testing.T, s api.Saga, h told) {
	t.Helper()
	n := len(s.Steps)
	if !ordered(s, h) {
		t.Fatalf("%s came to its end by %s", brief(s), brief(h))
	}
	told := 0
	for _, x := range h {
		if x[0] != 'a' {
			told++
		}
	}
	if told > n+n*9 {
		t.Fatalf("%s came to its end behind %d outcomes", brief(s), told)
	}
	if _, ok := saga.Abort(s); ok {
		t.Fatalf("%s is aborted", brief(s))
	}
	for _, o := range outcomes([]int{-1, 0, s.Cursor - 1, s.Cursor, n - 1, n}, []int{-1, 0, s.Failed - 1, s.Failed, 9}) {
		if got, ok := saga.Outcome(s, o.step, o.taken, o.try, o.ok); ok || !same(got, s) {
			t.Fatalf("%s is changed by %+v", brief(s), o)
		}
	}
}

// tell tells a saga an outcome, and lays it behind what it was told, if it is wanted.
func tell(s api.Saga, h told, o outcome) (api.Saga, told, bool) {
	kind := "-"
	switch {
	case o.taken && o.ok:
		kind = "*"
	case o.taken:
		kind = "!"
	case o.ok:
		kind = "+"
	}
	s, ok := saga.Outcome(s, o.step, o.taken, o.try, o.ok)
	if ok {
		h = append(slices.Clone(h), kind+fmt.Sprint(o.step))
	}
	return s, h, ok
}

// explore goes all ways from a saga on, and tells how many ends it came to, by their state.
func explore(t *testing.T, s api.Saga, h told, ends map[int]int) {
	t.Helper()
	if !saga.Sound(s) {
		t.Fatalf("%s came about by %s", brief(s), brief(h))
	}
	if saga.Ended(s) {
		holdEnd(t, s, h)
		ends[s.State]++
		return
	}
	if len(h) > 1+len(s.Steps)*10 {
		t.Fatalf("%s doesn't end", brief(s))
	}
	ways := 0
	for _, o := range outcomes(from(-1, len(s.Steps)), []int{s.Failed}) {
		if next, told, ok := tell(s, h, o); ok {
			ways++
			explore(t, next, told, ends)
		} else if !same(next, s) {
			t.Fatalf("%s is changed by %+v, that it doesn't want", brief(s), o)
		}
	}
	if ways != 2 {
		t.Fatalf("%s wants %d outcomes at its try", brief(s), ways)
	}
	if next, ok := saga.Abort(s); ok {
		explore(t, next, append(slices.Clone(h), "a"+fmt.Sprint(s.Cursor)), ends)
	}
}

// ways: how many ways there are to take back from step k on: to the end, and stuck.
func ways(l []api.Step, k int) (int, int) {
	through, held := 1, 0
	for i := k; i >= 0; i-- {
		held += through // all its tries fail
		through *= l[i].Budget
	}
	return through, held
}

// P14.2: all runs of small sagas.
func TestAllRuns(t *testing.T) {
	var all [][]api.Step
	for a := 1; a <= 3; a++ {
		all = append(all, steps(a))
		for b := 1; b <= 3; b++ {
			all = append(all, steps(a, b))
			for c := 1; c <= 3; c++ {
				all = append(all, steps(a, b, c))
			}
		}
	}
	all = append(all, steps(9, 9), steps(2, 1, 2, 1, 2))
	for _, l := range all {
		ends := map[int]int{}
		explore(t, made(t, l), nil, ends)
		want := map[int]int{done: 1}
		for k := range l {
			for _, first := range []int{k - 1, k} { // the step k failed, or it was aborted there
				u, s := ways(l, first)
				want[undone] += u
				want[stuck] += s
			}
		}
		if !reflect.DeepEqual(ends, want) {
			t.Errorf("%s has these ends: %v, want %v", brief(l), ends, want)
		}
	}
}

// P14.2: long runs, with much that isn't wanted in between.
func TestLongRuns(t *testing.T) {
	r := draws(2)
	ends := map[int]int{}
	for range 300 {
		s := made(t, anyDefinition(r, 64))
		var h told
		well := map[bool]int{false: 2 + r.IntN(400), true: 2 + r.IntN(40)} // one of so many doings, or takings back, fails
		for !saga.Ended(s) {
			o := outcome{s.Cursor, s.State == back, s.Failed, r.IntN(well[s.State == back]) != 0}
			if r.IntN(3) == 0 {
				o = outcome{r.IntN(len(s.Steps)+2) - 1, r.IntN(2) == 0, r.IntN(12) - 1, r.IntN(2) == 0}
			}
			holdOutcome(t, s, o)
			s, h, _ = tell(s, h, o)
			if r.IntN(300) == 0 {
				if next, ok := saga.Abort(s); ok {
					s, h = next, append(h, "a"+fmt.Sprint(s.Cursor))
				}
			}
			if !holdAsked(t, s) {
				t.Fatalf("%s came about by %s", brief(s), brief(h))
			}
		}
		holdEnd(t, s, h)
		ends[s.State]++
	}
	if ends[done] < 10 || ends[undone] < 10 || ends[stuck] < 10 {
		t.Errorf("there are too few ends of a kind: %v", ends)
	}
}

// P14.2: the longest run there is: all but the last step done, that one aborted, and each taking back fails as often as it may.
func TestLongestRun(t *testing.T) {
	l := steps(slices.Repeat([]int{9}, 64)...)
	s := made(t, l)
	var h told
	for i := range 63 {
		s, h, _ = tell(s, h, outcome{i, false, 0, true})
	}
	s, _ = saga.Abort(s)
	h = append(h, "a63")
	for i := 63; i >= 0; i-- {
		for try := range 9 {
			if saga.Ended(s) {
				t.Fatalf("%s ended too soon", brief(s))
			}
			s, h, _ = tell(s, h, outcome{i, true, try, try == 8})
		}
	}
	if placeOf(s) != (place{undone, 0, 0}) || len(h) != 63+1+64*9 {
		t.Fatalf("it came to %+v behind %d", placeOf(s), len(h))
	}
	holdEnd(t, s, h)
}

// numberBytes are a number's bytes by layer 3's words, by another way than the program's.
func numberBytes(x uint64) string {
	b := new(big.Int).SetUint64(x).Bytes() // the highest first, the first of them not 0
	return string(append([]byte{byte(len(b))}, b...))
}

// unsigned: x, or 2^64 and x, if it is below 0.
func unsigned(x int) uint64 {
	n := big.NewInt(int64(x))
	if x < 0 {
		n.Add(n, new(big.Int).Lsh(big.NewInt(1), 64))
	}
	return n.Uint64()
}

// fields: a saga's bytes by the chapter's words, a number or text each.
func fields(s api.Saga) []string {
	out := []string{numberBytes(uint64(len(s.Steps)))}
	for _, x := range s.Steps {
		out = append(out, numberBytes(unsigned(x.Part)), numberBytes(uint64(len(x.Name)))+x.Name, numberBytes(unsigned(x.Budget)))
	}
	return append(out, numberBytes(unsigned(s.State)), numberBytes(unsigned(s.Cursor)), numberBytes(unsigned(s.Failed)))
}

func bytesOf(s api.Saga) string { return strings.Join(fields(s), "") }

// written: the bytes that Write lays on a new writer.
func written(s api.Saga) string {
	w := new(pack.Writer)
	saga.Write(w, s)
	return w.Bytes()
}

// front takes the number in front of bytes; false, if none stands there, or one above a limit.
func front(s string, limit uint64) (int, string, bool) {
	for n := 1; n <= min(len(s), 9); n++ {
		x := new(big.Int).SetBytes([]byte(s[1:n])).Uint64()
		if numberBytes(x) == s[:n] && x <= limit {
			return int(x), s[n:], true
		}
	}
	return 0, "", false
}

// frontText takes the text in front of bytes, of up to so many.
func frontText(s string, limit uint64) (string, string, bool) {
	n, s, ok := front(s, limit)
	if !ok || n > len(s) {
		return "", "", false
	}
	return s[:n], s[n:], true
}

// meant: the saga that is read from the front of bytes, by the chapter's words, be it one that can be or not, and what is left; false, if the reader fails.
func meant(b string) (api.Saga, string, bool) {
	var s api.Saga
	n, b, ok := front(b, 64)
	for ; n > 0 && ok; n-- {
		var x api.Step
		if x.Part, b, ok = front(b, 3); ok {
			if x.Name, b, ok = frontText(b, 16); ok {
				x.Budget, b, ok = front(b, 9)
			}
		}
		s.Steps = append(s.Steps, x)
	}
	if ok {
		if s.State, b, ok = front(b, 5); ok {
			if s.Cursor, b, ok = front(b, 64); ok {
				s.Failed, b, ok = front(b, 9)
			}
		}
	}
	return s, b, ok
}

// holdRead holds Read to the words at bytes, and tells whether a saga was read.
func holdRead(t *testing.T, b string) bool {
	t.Helper()
	want, rest, fine := meant(b)
	can := fine && canBe(want)
	if !can {
		want = api.Saga{}
	}
	if !fine {
		rest = ""
	}
	r := pack.From(b)
	got, ok := saga.Read(r)
	if ok != can || !same(got, want) {
		t.Fatalf("of %s is read %s, %v, want %s, %v", brief(b), brief(got), ok, brief(want), can)
	}
	if left, good := r.Left(); left != len(rest) || good != fine {
		t.Fatalf("behind %s is left %d, %v, want %d, %v", brief(b), left, good, len(rest), fine)
	}
	if ok && written(got) != b[:len(b)-len(rest)] {
		t.Fatalf("%s was read, and is laid as %s", brief(b), brief(written(got)))
	}
	return ok
}

// P14.1: bytes written out by hand: what stands where, of a saga that can be or not.
func TestBytesWrittenOut(t *testing.T) {
	pay := []api.Step{{Part: 2, Name: "pay", Budget: 3}}
	laid := "\x01\x01" + "\x01\x02\x01\x03pay\x01\x03"
	for _, c := range []struct {
		s    api.Saga
		want string
		can  bool
	}{
		{at(pay, place{runs, 0, 0}), laid + "\x01\x01" + "\x00" + "\x00", true},
		{at(pay, place{back, 0, 2}), laid + "\x01\x02" + "\x00" + "\x01\x02", true},
		{at(pay, place{done, 1, 0}), laid + "\x01\x03" + "\x01\x01" + "\x00", true},
		{at(pay, place{undone, 0, 0}), laid + "\x01\x04" + "\x00" + "\x00", true},
		{at(pay, place{stuck, 0, 3}), laid + "\x01\x05" + "\x00" + "\x01\x03", true},
		{at(pay, place{runs, 1, 0}), laid + "\x01\x01" + "\x01\x01" + "\x00", false},
		{at(pay, place{0, 0, 0}), laid + "\x00\x00\x00", false},
		{at(pay, place{6, 65, 10}), laid + "\x01\x06" + "\x01\x41" + "\x01\x0a", false},
		{at(pay, place{256, 300, 65536}), laid + "\x02\x01\x00" + "\x02\x01\x2c" + "\x03\x01\x00\x00", false},
		{at(pay, place{-1, -2, -256}), laid + "\x08\xff\xff\xff\xff\xff\xff\xff\xff" + "\x08\xff\xff\xff\xff\xff\xff\xff\xfe" + "\x08\xff\xff\xff\xff\xff\xff\xff\x00", false},
		{at(pay, place{math.MinInt64, math.MaxInt64, 0}), laid + "\x08\x80\x00\x00\x00\x00\x00\x00\x00" + "\x08\x7f\xff\xff\xff\xff\xff\xff\xff" + "\x00", false},
		{api.Saga{}, "\x00\x00\x00\x00", false},
		{at(nil, place{undone, 0, 0}), "\x00\x01\x04\x00\x00", false},
		{at([]api.Step{{}}, place{undone, 0, 0}), "\x01\x01\x00\x00\x00" + "\x01\x04\x00\x00", false},
		{at([]api.Step{{Part: -1, Name: "a", Budget: 1}}, place{runs, 0, 0}), "\x01\x01\x08\xff\xff\xff\xff\xff\xff\xff\xff\x01\x01a\x01\x01" + "\x01\x01\x00\x00", false},
	} {
		if got := written(c.s); got != c.want {
			t.Errorf("Write lays %s of %s, want %s", brief(got), brief(c.s), brief(c.want))
		}
		got, ok := saga.Read(pack.From(c.want))
		if ok != c.can || c.can && !same(got, c.s) || !c.can && !isZero(got) {
			t.Errorf("Read answers %s, %v of %s", brief(got), ok, brief(c.want))
		}
		holdRead(t, c.want)
	}
}

// P14.1: what is written of a saga that can be is read as it was; what can't be isn't read; no two have the same bytes.
func TestThereAndBack(t *testing.T) {
	seen := map[string]bool{}
	all := 0
	for _, l := range samples() {
		for _, state := range from(-2, 8) {
			for _, cursor := range from(-2, len(l)+2) {
				for _, failed := range from(-2, 12) {
					s := at(l, place{state, cursor, failed})
					b := written(s)
					if b != bytesOf(s) {
						t.Fatalf("Write lays %s of %s", brief(b), brief(s))
					}
					if holdRead(t, b) != canBe(s) {
						t.Fatalf("%s is read, or isn't, as it shouldn't", brief(s))
					}
					seen[b] = true
					all++
				}
			}
		}
	}
	if len(seen) != all {
		t.Errorf("%d sagas have %d bytes", all, len(seen))
	}
	for n := 1; n <= 64; n++ {
		for _, p := range places(many(n)) {
			if s := at(many(n), p); written(s) != bytesOf(s) || !holdRead(t, bytesOf(s)) {
				t.Fatalf("%s isn't read", brief(s))
			}
		}
	}
}

// P14.1: Write lays the bytes of wrong steps too; Read takes no such saga.
func TestWrongBytes(t *testing.T) {
	for _, l := range wrong() {
		for _, p := range []place{{}, {runs, 0, 0}, {back, 0, 0}, {done, len(l), 0}, {undone, 0, 0}, {stuck, 0, 0}, {stuck, 0, 9}} {
			s := at(l, p)
			if written(s) != bytesOf(s) {
				t.Fatalf("Write lays %s of %s", brief(written(s)), brief(s))
			}
			if holdRead(t, bytesOf(s)) {
				t.Fatalf("%s is read", brief(s))
			}
		}
	}
}

// P14.1: a number past its bound, and bytes that are too few, make the reader fail, though what was read of them could be a saga.
func TestReadFails(t *testing.T) {
	pay := "\x01\x01" + "\x01\x02\x01\x03pay\x01\x03"
	for _, b := range []string{
		"", "\x09", "\x01", "\x01\x41", pay, pay + "\x01", pay + "\x01\x01", pay + "\x01\x01\x00", pay + "\x01\x04", pay + "\x01\x04\x00", pay + "\x01\x02\x00", pay + "\x01\x03\x01\x01",
		pay + "\x01\x06\x00\x00", pay + "\x01\x00\x00\x00", pay + "\x02\x00\x01\x00\x00", pay + "\x02\x01\x01\x00\x00", pay + "\x08\xff\xff\xff\xff\xff\xff\xff\xff\x00\x00",
		pay + "\x01\x01\x01\x41\x00", pay + "\x01\x01\x01\x00\x00", pay + "\x01\x01\x02\x01\x00\x00", pay + "\x01\x01\x08\xff\xff\xff\xff\xff\xff\xff\xff\x00",
		pay + "\x01\x01\x00\x01\x0a", pay + "\x01\x02\x00\x01\x0a", pay + "\x01\x01\x00\x01\x00", pay + "\x01\x01\x00\x02\x01\x00", pay + "\x01\x01\x00\x08\xff\xff\xff\xff\xff\xff\xff\xff",
		"\x01\x01" + "\x01\x04\x01\x03pay\x01\x03" + "\x01\x01\x00\x00", "\x01\x01" + "\x01\x02\x01\x03pay\x01\x0a" + "\x01\x01\x00\x00", "\x01\x01" + "\x01\x02\x01\x11" + strings.Repeat("p", 17) + "\x01\x03" + "\x01\x01\x00\x00",
	} {
		r := pack.From(b)
		if s, ok := saga.Read(r); ok || !isZero(s) {
			t.Errorf("Read answers %s, %v of %s", brief(s), ok, brief(b))
		}
		if n, ok := r.Left(); n != 0 || ok {
			t.Errorf("the reader of %s didn't fail", brief(b))
		}
		holdRead(t, b)
	}
}

// P14.1: what has the bounds but can't be is taken from the reader, which goes on.
func TestReadGoesOn(t *testing.T) {
	l := steps(2, 1)
	for _, p := range []place{{0, 0, 0}, {runs, 0, 1}, {runs, 2, 0}, {back, 0, 2}, {back, 1, 1}, {back, 2, 0}, {done, 1, 0}, {done, 2, 1}, {undone, 1, 0}, {undone, 0, 1}, {stuck, 0, 1}, {stuck, 1, 2}, {stuck, 0, 0}, {stuck, 2, 0}, {stuck, 64, 9}} {
		w := new(pack.Writer)
		saga.Write(w, at(l, p))
		saga.Write(w, at(l, place{runs, 1, 0}))
		r := pack.From(w.Text("behind").Bytes())
		if s, ok := saga.Read(r); ok || !isZero(s) {
			t.Errorf("%+v is read as %s", p, brief(s))
		}
		if s, ok := saga.Read(r); !ok || !same(s, at(l, place{runs, 1, 0})) {
			t.Errorf("behind %+v is read %s", p, brief(s))
		}
		if r.Text(6) != "behind" || !r.Done() {
			t.Errorf("behind %+v not all is read", p)
		}
	}
}

// P14.1: Write lays behind what was laid, and Read takes from where the reader stands, and no more than the saga.
func TestBehindOthers(t *testing.T) {
	a, b := at(steps(3), place{stuck, 0, 3}), at(many(64), place{back, 63, 0})
	w := new(pack.Writer).Num(300)
	saga.Write(w, a)
	w.Text("ab")
	saga.Write(w, b)
	w.Bool(true)
	if s := "\x02\x01\x2c" + bytesOf(a) + "\x01\x02ab" + bytesOf(b) + "\x01\x01"; w.Bytes() != s {
		t.Fatalf("Write lays %s, want %s", brief(w.Bytes()), brief(s))
	}
	r := pack.From(w.Bytes())
	n := r.Num()
	x, okX := saga.Read(r)
	between := r.Text(2)
	y, okY := saga.Read(r)
	if n != 300 || !okX || !same(x, a) || between != "ab" || !okY || !same(y, b) || !r.Bool() || !r.Done() {
		t.Error("what was laid isn't read as it was")
	}
}

// P14.1, rule 7: a reader that failed ahead, one at its end, and a nil one give nothing; a nil writer takes nothing.
func TestNothingThere(t *testing.T) {
	b := bytesOf(at(steps(2), place{runs, 0, 0}))
	failed := pack.From("\x09" + b)
	failed.Num()
	ended := pack.From(b)
	saga.Read(ended)
	for i, r := range []*pack.Reader{failed, ended, nil} {
		for range 2 {
			if s, ok := saga.Read(r); ok || !isZero(s) || r.Done() {
				t.Errorf("reader %d: Read answers %s, %v", i, brief(s), ok)
			}
		}
	}
	for _, s := range []api.Saga{{}, at(steps(2), place{runs, 0, 0}), at(many(65), place{-1, -1, -1})} {
		var w *pack.Writer
		saga.Write(w, s)
		if w.Bytes() != "" {
			t.Error("a nil writer has bytes")
		}
	}
}

// one: a text of one byte.
func one(b int) string { return string([]byte{byte(b)}) }

// P14.1: in each field of a saga any number, in one form or another; each byte changed, gone or doubled.
func TestBytesChanged(t *testing.T) {
	for _, s := range []api.Saga{at(steps(2), place{runs, 0, 0}), at(steps(2, 3), place{back, 1, 2}), at(steps(1, 1), place{done, 2, 0}), at(steps(4), place{undone, 0, 0}), at(steps(1, 2, 1), place{stuck, 1, 2})} {
		b, f := bytesOf(s), fields(s)
		for i := range f {
			changed := slices.Clone(f)
			for n := range uint64(70) {
				changed[i] = numberBytes(n)
				holdRead(t, strings.Join(changed, ""))
			}
			for _, n := range far() {
				changed[i] = numberBytes(unsigned(n))
				holdRead(t, strings.Join(changed, ""))
			}
			changed[i] = one(int(f[i][0])+1) + "\x00" + f[i][1:]
			if holdRead(t, strings.Join(changed, "")) {
				t.Errorf("field %d of %s has a second form", i, brief(s))
			}
		}
		for i := range b {
			if holdRead(t, b[:i]) {
				t.Fatalf("the first %d bytes of %s are read", i, brief(b))
			}
			holdRead(t, b[i:])
			holdRead(t, b[:i]+b[i+1:])
			holdRead(t, b[:i]+b[i:i+1]+b[i:])
			for c := range 256 {
				holdRead(t, b[:i]+one(c)+b[i+1:])
			}
		}
		for c := range 256 {
			if !holdRead(t, b+one(c)) {
				t.Fatalf("with a byte behind, %s isn't read", brief(b))
			}
		}
	}
}

// P14.1: all short bytes over some letters behind a step's, at the edges of what may stand there.
func TestAllShortBytes(t *testing.T) {
	letters, read := "\x00\x01\x02\x03\x04\x05\x06", 0
	for _, ahead := range []string{"\x01\x01\x00\x01\x01a\x01\x03", "\x01\x02\x00\x01\x01a\x01\x03\x00\x01\x01b\x01\x01", ""} {
		level := []string{ahead}
		for range 7 {
			var next []string
			for _, b := range level {
				if holdRead(t, b) {
					read++
				}
				for i := range len(letters) {
					next = append(next, b+letters[i:i+1])
				}
			}
			level = next
		}
	}
	// Of the step alone 3 sagas have 4 bytes behind it, 4 have 5; of both steps 3 have 4, 6 have 5, 1 has 6; all with any letters behind, up to 6 in all.
	if want := (3*57 + 4*8) + (3*57 + 6*8 + 1); read != want {
		t.Errorf("%d of these were read, want %d", read, want)
	}
}

// P14.1, P0: sagas, outcomes and bytes that look like chance.
func TestChance(t *testing.T) {
	r := draws(3)
	number := func() int {
		switch r.IntN(8) {
		case 0:
			return far()[r.IntN(len(far()))]
		case 1:
			return int(r.Uint64())
		}
		return r.IntN(14) - 2
	}
	for range 20000 {
		l := anyDefinition(r, 1+r.IntN(12))
		if x := &l[r.IntN(len(l))]; r.IntN(10) == 0 {
			x.Part, x.Budget = number(), number()
		}
		s := at(l, place{number(), number(), number()})
		holdAsked(t, s)
		holdOutcome(t, s, outcome{number(), r.IntN(2) == 0, number(), r.IntN(2) == 0})
		if written(s) != bytesOf(s) {
			t.Fatalf("Write lays %s of %s", brief(written(s)), brief(s))
		}
		b := []byte(bytesOf(s))
		holdRead(t, string(b))
		b[r.IntN(len(b))] = byte(r.Uint32() >> r.IntN(32))
		holdRead(t, string(b))
	}
	for range 100000 {
		b := make([]byte, r.IntN(30))
		for k := range b {
			b[k] = byte(r.Uint32() >> 24 >> r.IntN(9))
		}
		holdRead(t, string(b))
	}
}

// P0: many steps and a long name, at which a way of quadratic length would not end in time.
func TestLong(t *testing.T) {
	l := slices.Repeat(steps(1), 1<<20)
	for _, s := range []api.Saga{at(l, place{runs, 1, 0}), at([]api.Step{{Name: strings.Repeat("n", 8<<20), Budget: 1}}, place{runs, 0, 0})} {
		if _, e := saga.New(s.Steps); e != api.ErrDef {
			t.Error("it isn't refused")
		}
		if _, _, ok := saga.Wants(s); ok || saga.Sound(s) || saga.Ended(s) {
			t.Error("it can be")
		}
		if got, ok := saga.Abort(s); ok || !same(got, s) {
			t.Error("it is aborted")
		}
		if got, ok := saga.Outcome(s, s.Cursor, false, 0, true); ok || !same(got, s) {
			t.Error("it has an outcome")
		}
		if written(s) != bytesOf(s) || holdRead(t, bytesOf(s)) {
			t.Error("it isn't laid as it should be")
		}
	}
}

// Rule 4: what is handed in is not changed, the room behind the steps neither, nor kept.
func TestHandedIn(t *testing.T) {
	room := append(many(66), api.Step{Part: -1, Name: "behind", Budget: 99})
	was := slices.Clone(room)
	for n := range len(room) + 1 {
		for _, p := range []place{{runs, 0, 0}, {runs, n - 1, 0}, {back, 0, 0}, {back, n - 1, 0}, {done, n, 0}, {undone, 0, 0}, {stuck, 0, 1}} {
			s := at(room[:n], p)
			w := new(pack.Writer)
			saga.Write(w, s)
			made, _ := saga.New(s.Steps)
			saga.Sound(s)
			saga.Wants(s)
			aborted, _ := saga.Abort(s)
			well, _ := saga.Outcome(s, s.Cursor, p.State == back, 0, true)
			ill, _ := saga.Outcome(s, s.Cursor, p.State == back, 0, false)
			if placeOf(s) != p || !slices.Equal(room, was) {
				t.Fatal("a call changes what it is handed")
			}
			for i := range room {
				room[i] = api.Step{Name: "spoiled"}
			}
			for _, x := range []api.Saga{aborted, well, ill} {
				if !slices.Equal(x.Steps, was[:n]) {
					t.Fatal("an answer shares memory with what was handed in")
				}
			}
			if defined(was[:n]) && !slices.Equal(made.Steps, was[:n]) {
				t.Fatal("New keeps what it is handed")
			}
			if w.Bytes() != bytesOf(at(was[:n], p)) {
				t.Fatal("Write keeps what it is handed")
			}
			copy(room, was)
		}
	}
}

// Rules 4 and 8: answers share no memory with each other, nor with what was handed in, and hang on the arguments alone.
func TestAnswersAreNew(t *testing.T) {
	l := steps(2, 1, 3)
	for _, p := range places(l) {
		own := slices.Clone(l)
		s := at(own, p)
		calls := []func() api.Saga{
			func() api.Saga { x, _ := saga.New(own); return x },
			func() api.Saga { x, _ := saga.Abort(s); return x },
			func() api.Saga { x, _ := saga.Outcome(s, p.Cursor, p.State == back, p.Failed, true); return x },
			func() api.Saga { x, _ := saga.Outcome(s, p.Cursor, p.State == back, p.Failed, false); return x },
			func() api.Saga { x, _ := saga.Outcome(s, -1, false, 0, false); return x },
			func() api.Saga { x, _ := saga.Read(pack.From(bytesOf(s))); return x },
		}
		for i, call := range calls {
			a, b := call(), call()
			if !same(a, b) {
				t.Fatalf("call %d answers %s, then %s", i, brief(a), brief(b))
			}
			spoiled := a.Steps[:cap(a.Steps)]
			for k := range spoiled {
				spoiled[k] = api.Step{Name: "spoiled"}
			}
			if !slices.Equal(b.Steps, l) || !slices.Equal(own, l) {
				t.Fatalf("call %d shares memory", i)
			}
			if c := call(); !same(c, b) {
				t.Fatalf("call %d hangs on calls before", i)
			}
		}
	}
}
