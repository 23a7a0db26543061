package machine_test

import (
	"fmt"
	"math"
	"math/rand/v2"
	"reflect"
	"slices"
	"sort"
	"testing"

	"tontine/api"
	"tontine/command"
	"tontine/machine"
	"tontine/pack"
	"tontine/plan"
	"tontine/session"
)

// The numbers that the chapters name.
const (
	mostSagas    = 16
	mostSessions = 16
	life         = 1000

	errArg, errForm, errFull               = 1, 2, 11
	errExpired, errStale                   = 40, 41
	errTwice, errSaga                      = 42, 43
	register, submit, abort                = 1, 2, 3
	outcome, query                         = 4, 5
	runs, back, done, undone, stuck        = 1, 2, 3, 4, 5
	top                             uint64 = math.MaxUint64
)

// A held saga stands under its number.
type held struct {
	id   uint64
	saga api.Saga
}

// A paper is a machine as the words of chapters 14, 15 and 17 have it, by another way than the program's: lists, and no layer's calls.
type paper struct {
	now, next uint64
	rows      []session.Row
	sagas     []held // as they came
}

// blank: the paper of a new machine.
func blank() *paper { return &paper{next: 1} }

// copyOf: a paper of its own.
func copyOf(p *paper) *paper {
	q := &paper{now: p.now, next: p.next, rows: slices.Clone(p.rows)}
	for _, x := range p.sagas {
		x.saga.Steps = slices.Clone(x.saga.Steps)
		q.sagas = append(q.sagas, x)
	}
	return q
}

func (p *paper) row(id uint64) *session.Row {
	for i := range p.rows {
		if p.rows[i].Id == id {
			return &p.rows[i]
		}
	}
	return nil
}

func (p *paper) saga(id uint64) *api.Saga {
	for i := range p.sagas {
		if p.sagas[i].id == id {
			return &p.sagas[i].saga
		}
	}
	return nil
}

func told(x *api.Saga) api.Reply {
	return api.Reply{Num: uint64(x.State), Extra: uint64(x.Cursor)}
}

func fault(e api.Errno) api.Reply { return api.Reply{Err: e} }

// clock: a time above the paper's is the time, and who wasn't used in the last 1000 units is gone.
func (p *paper) clock(now uint64) {
	if now <= p.now {
		return
	}
	p.now = now
	var left []session.Row
	for _, x := range p.rows {
		if now <= life || x.Used >= now-life {
			left = append(left, x)
		}
	}
	p.rows = left
}

// apply: a command that may be, and its reply.
func (p *paper) apply(c api.Command) api.Reply {
	p.clock(c.Now)
	if c.Kind == register {
		return p.register()
	}
	if c.Kind == outcome {
		return p.outcome(c)
	}
	x := p.row(c.Session)
	if x == nil {
		return fault(errExpired)
	}
	x.Used = p.now
	if c.Seq == 0 || c.Seq != x.Seq && c.Seq-1 != x.Seq {
		return fault(errStale)
	}
	if c.Seq != x.Seq {
		x.Seq, x.Reply = c.Seq, p.serve(c)
	}
	return x.Reply
}

func (p *paper) register() api.Reply {
	if len(p.rows) == mostSessions || p.next == top {
		return fault(errFull)
	}
	p.next++
	p.rows = append(p.rows, session.Row{Id: p.next - 1, Used: p.now})
	return api.Reply{Num: p.next - 1}
}

// serve: a session's command that is new.
func (p *paper) serve(c api.Command) api.Reply {
	x := p.saga(c.Saga)
	switch {
	case c.Kind == submit && x != nil:
		return fault(errTwice)
	case c.Kind == submit && len(p.sagas) == mostSagas:
		return fault(errFull)
	case c.Kind == submit:
		p.sagas = append(p.sagas, held{c.Saga, api.Saga{Steps: slices.Clone(c.Steps), State: runs}})
		return api.Reply{Num: 1}
	case x == nil:
		return fault(errSaga)
	case c.Kind == abort && x.State == runs:
		x.State = back
	}
	return told(x)
}

func (p *paper) outcome(c api.Command) api.Reply {
	x := p.saga(c.Saga)
	if x == nil {
		return fault(errSaga)
	}
	waits := map[bool]int{false: runs, true: back}
	if x.State != waits[c.Back] || c.Step != x.Cursor || !c.Ok && c.Try != x.Failed {
		return fault(errStale)
	}
	switch {
	case x.State == runs && c.Ok:
		x.Cursor++
		if x.Cursor == len(x.Steps) {
			x.State = done
		}
	case x.State == back && !c.Ok:
		x.Failed++
		if x.Failed == x.Steps[x.Cursor].Budget {
			x.State = stuck
		}
	case x.Cursor == 0:
		x.State, x.Failed = undone, 0
	default:
		x.State, x.Failed = back, 0
		x.Cursor--
	}
	return told(x)
}

// byNumber: the sagas from the least number up.
func (p *paper) byNumber() []held {
	l := slices.Clone(p.sagas)
	sort.Slice(l, func(i, j int) bool { return l[i].id < l[j].id })
	return l
}

// sagaBytes lays a saga by the words of layers 13 and 14, whether it can be or not.
func sagaBytes(w *pack.Writer, s api.Saga) {
	plan.Write(w, s.Steps)
	w.Num(uint64(s.State)).Num(uint64(s.Cursor)).Num(uint64(s.Failed))
}

// laid: the bytes of what may be a machine or not: sessions and sagas in the order in which they are handed in.
func laid(now, next uint64, rows []session.Row, sagas []held) string {
	w := new(pack.Writer).Num(now).Num(next).Num(uint64(len(rows)))
	for _, x := range rows {
		w.Num(x.Id).Num(x.Used).Num(x.Seq).Num(uint64(x.Reply.Err)).Num(x.Reply.Num).Num(x.Reply.Extra)
	}
	w.Num(uint64(len(sagas)))
	for _, x := range sagas {
		w.Num(x.id)
		sagaBytes(w, x.saga)
	}
	return w.Bytes()
}

func (p *paper) bytes() string { return laid(p.now, p.next, p.rows, p.byNumber()) }

// brief: what a test tells of anything, which may be much.
func brief(x any) string {
	s := fmt.Sprintf("%+q", fmt.Sprintf("%+v", x))
	return s[:min(len(s), 500)]
}

// bytesOf: a command's bytes; the test ends if it may not be.
func bytesOf(t *testing.T, c api.Command) string {
	t.Helper()
	s, e := command.Encode(c)
	if e != api.OK {
		t.Fatalf("%s may not be: %d", brief(c), int(e))
	}
	return s
}

// holdMachine holds all that a machine tells to the paper, twice: asking changes nothing.
func holdMachine(t *testing.T, m *machine.Machine, p *paper) {
	t.Helper()
	for range 2 {
		if got := m.Sessions(); !slices.Equal(got, p.rows) {
			t.Fatalf("Sessions answers %s, want %s", brief(got), brief(p.rows))
		}
		holdSagas(t, m, p)
		if got := m.Save(); got != p.bytes() {
			t.Fatalf("Save answers %s, want %s", brief(got), brief(p.bytes()))
		}
	}
}

// holdSagas holds Sagas, and Saga of each number there and of those around it, to the paper.
func holdSagas(t *testing.T, m *machine.Machine, p *paper) {
	t.Helper()
	var numbers []uint64
	for _, x := range p.byNumber() {
		numbers = append(numbers, x.id)
	}
	if got := m.Sagas(); !slices.Equal(got, numbers) {
		t.Fatalf("Sagas answers %v, want %v", got, numbers)
	}
	for _, n := range append(numbers, 0, 1, 6, 8, 17, 1<<32, top) {
		for _, id := range []uint64{n - 1, n, n + 1} {
			want := p.saga(id)
			got, ok := m.Saga(id)
			if ok != (want != nil) || ok && !reflect.DeepEqual(got, *want) || !ok && !reflect.DeepEqual(got, api.Saga{}) {
				t.Fatalf("Saga(%d) answers %s, %v, want %s", id, brief(got), ok, brief(want))
			}
		}
	}
}

// answers holds Apply of a command to the paper, and tells the reply.
func answers(t *testing.T, m *machine.Machine, p *paper, c api.Command) api.Reply {
	t.Helper()
	was := p.bytes()
	y, want := m.Apply(bytesOf(t, c)), p.apply(c)
	if y != want {
		t.Fatalf("Apply(%s) answers %+v, want %+v; the machine was %s", brief(c), y, want, brief(was))
	}
	return y
}

// hold holds a command's reply, and the machine behind it, to the paper.
func hold(t *testing.T, m *machine.Machine, p *paper, c api.Command) api.Reply {
	t.Helper()
	y := answers(t, m, p, c)
	holdMachine(t, m, p)
	return y
}

// loaded: the machine of a paper, by its bytes.
func loaded(t *testing.T, p *paper) *machine.Machine {
	t.Helper()
	m, e := machine.Load(p.bytes())
	if e != api.OK || m == nil {
		t.Fatalf("Load answers %d of %s", int(e), brief(p))
	}
	return m
}

// steps: a definition of as many steps, each with that budget.
func steps(n, budget int) []api.Step {
	var l []api.Step
	for i := range n {
		l = append(l, api.Step{Part: i % 4, Name: fmt.Sprintf("s%d", i), Budget: budget})
	}
	return l
}

// Commands, as short as may be.
func enters(now uint64) api.Command { return api.Command{Kind: register, Now: now} }

func submits(who, seq, id uint64, l []api.Step) api.Command {
	return api.Command{Kind: submit, Session: who, Seq: seq, Saga: id, Steps: l}
}

func aborts(who, seq, id uint64) api.Command {
	return api.Command{Kind: abort, Session: who, Seq: seq, Saga: id}
}

func asks(who, seq, id uint64) api.Command {
	return api.Command{Kind: query, Session: who, Seq: seq, Saga: id}
}

// did: a step's doing; took: its taking back.
func did(id uint64, step int, ok bool) api.Command {
	return api.Command{Kind: outcome, Saga: id, Step: step, Ok: ok}
}

func took(id uint64, step, try int, ok bool) api.Command {
	return api.Command{Kind: outcome, Saga: id, Step: step, Back: true, Try: try, Ok: ok}
}

// at: a command at another time.
func at(now uint64, c api.Command) api.Command {
	c.Now = now
	return c
}

// edges: numbers around those at which something changes.
func edges() []uint64 {
	return []uint64{0, 1, 2, 15, 16, 17, 255, 256, 999, 1000, 1001, 1 << 32, 1<<32 + 1, 1<<63 - 1, 1 << 63, top - 1001, top - 1000, top - 1, top}
}

// draws gives numbers that look like chance and are the same each time.
func draws(seed int) *rand.Rand { return rand.New(rand.NewPCG(uint64(seed), 17)) }

// one of a list.
func one[T any](r *rand.Rand, l ...T) T { return l[r.IntN(len(l))] }

// anyCommand: one that may be, most of them such that something comes of it.
func anyCommand(r *rand.Rand, p *paper) api.Command {
	c := api.Command{Kind: one(r, register, submit, submit, abort, query, query, outcome, outcome, outcome, outcome, outcome)}
	c.Now = one(r, 0, p.now, p.now, p.now+r.Uint64N(30), p.now+r.Uint64N(30), p.now-r.Uint64N(9))
	if r.IntN(60) == 0 {
		c.Now = p.now + 990 + r.Uint64N(20)
	}
	c.Saga = r.Uint64N(22)
	if len(p.sagas) > 0 && r.IntN(3) > 0 {
		c.Saga = p.sagas[r.IntN(len(p.sagas))].id
	}
	if c.Kind == outcome {
		return anyOutcome(r, p, c)
	}
	if c.Kind == submit {
		c.Steps = steps(1+r.IntN(4), 1+r.IntN(3))
	}
	c.Session, c.Seq = r.Uint64N(p.next+1), r.Uint64N(4)
	if len(p.rows) > 0 && r.IntN(8) > 0 {
		x := p.rows[r.IntN(len(p.rows))]
		c.Session, c.Seq = x.Id, one(r, x.Seq+1, x.Seq+1, x.Seq+1, x.Seq, x.Seq, x.Seq-1, x.Seq+2, 0, top)
	}
	return c
}

// anyOutcome: of a command's saga, most often what it waits for.
func anyOutcome(r *rand.Rand, p *paper, c api.Command) api.Command {
	c.Ok = r.IntN(3) > 0
	if x := p.saga(c.Saga); x != nil && r.IntN(5) > 0 {
		c.Step, c.Back, c.Try = min(x.Cursor, 63), x.State == back, min(x.Failed, 8)
		return c
	}
	c.Step, c.Back, c.Try = r.IntN(5), r.IntN(2) == 0, r.IntN(3)
	return c
}
