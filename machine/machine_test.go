package machine_test

import (
	"math/rand/v2"
	"reflect"
	"slices"
	"testing"

	"tontine/api"
	"tontine/command"
	"tontine/machine"
	"tontine/session"
)

// P17.1: the chapter's example.
func TestExample(t *testing.T) {
	m := machine.New()
	if y := m.Apply(bytesOf(t, enters(0))); y != (api.Reply{Num: 1}) {
		t.Fatalf("Register answers %+v", y)
	}
	for range 2 {
		if y := m.Apply(bytesOf(t, submits(1, 1, 7, steps(2, 1)))); y != (api.Reply{Num: 1}) {
			t.Fatalf("Submit answers %+v", y)
		}
	}
}

// P17.1: a run, its replies and its bytes, written out by hand.
func TestWrittenOut(t *testing.T) {
	m := machine.New()
	holdBytes := func(i int, want string) {
		t.Helper()
		if got := m.Save(); got != want {
			t.Fatalf("%d: Save answers %s, want %s", i, brief(got), brief(want))
		}
	}
	does := func(c api.Command, want api.Reply) {
		t.Helper()
		if y := m.Apply(bytesOf(t, c)); y != want {
			t.Fatalf("Apply(%s) answers %+v, want %+v", brief(c), y, want)
		}
	}
	pay := []api.Step{{Part: 2, Name: "pay", Budget: 3}}
	holdBytes(0, "\x00"+"\x01\x01"+"\x00"+"\x00")
	does(enters(300), api.Reply{Num: 1})
	holdBytes(1, "\x02\x01\x2c"+"\x01\x02"+"\x01\x01"+"\x01\x01\x02\x01\x2c\x00\x00\x00\x00"+"\x00")
	does(at(301, submits(1, 1, 9, pay)), api.Reply{Num: 1})
	does(at(302, submits(1, 2, 5, pay)), api.Reply{Num: 1})
	does(at(303, did(5, 0, true)), api.Reply{Num: 3, Extra: 1})
	does(at(304, aborts(1, 3, 9)), api.Reply{Num: 2})
	does(at(305, took(9, 0, 0, false)), api.Reply{Num: 2})
	does(at(305, asks(1, 4, 6)), api.Reply{Err: 43})
	holdBytes(2, "\x02\x01\x31"+"\x01\x02"+"\x01\x01"+"\x01\x01\x02\x01\x31\x01\x04\x01\x2b\x00\x00"+"\x01\x02"+
		"\x01\x05"+"\x01\x01\x01\x02\x01\x03pay\x01\x03"+"\x01\x03\x01\x01\x00"+
		"\x01\x09"+"\x01\x01\x01\x02\x01\x03pay\x01\x03"+"\x01\x02\x00\x01\x01")
	if got := m.Sagas(); !slices.Equal(got, []uint64{5, 9}) {
		t.Fatalf("Sagas answers %v", got)
	}
	if got := m.Sessions(); !slices.Equal(got, []session.Row{{Id: 1, Used: 305, Seq: 4, Reply: api.Reply{Err: 43}}}) {
		t.Fatalf("Sessions answers %+v", got)
	}
	if s, ok := m.Saga(9); !ok || !reflect.DeepEqual(s, api.Saga{Steps: pay, State: 2, Failed: 1}) {
		t.Fatalf("Saga answers %+v, %v", s, ok)
	}
}

// P17.1: a new machine has nothing in it, and is another one each time.
func TestNew(t *testing.T) {
	a, b := machine.New(), machine.New()
	p := blank()
	holdMachine(t, a, p)
	hold(t, a, p, enters(4))
	hold(t, a, p, submits(1, 1, 7, steps(2, 1)))
	holdMachine(t, b, blank())
	holdMachine(t, machine.New(), blank())
}

// samples: machines with nothing, with something of each kind, and with as much as there may be.
func samples() []*paper {
	y := api.Reply{Num: 3, Extra: 4}
	some := &paper{now: 2000, next: 9, rows: []session.Row{{Id: 3, Used: 1000, Seq: 4, Reply: fault(errTwice)}, {Id: 8, Used: 1999}}}
	some.sagas = []held{
		{7, api.Saga{Steps: steps(3, 2), State: back, Cursor: 1, Failed: 1}}, {0, api.Saga{Steps: steps(2, 3), State: runs, Cursor: 1}},
		{top, api.Saga{Steps: steps(1, 1), State: done, Cursor: 1}}, {300, api.Saga{Steps: steps(4, 9), State: stuck, Cursor: 2, Failed: 9}},
		{8, api.Saga{Steps: steps(2, 1), State: undone}},
	}
	whole := &paper{now: 1000, next: 40}
	for i := range mostSagas {
		whole.rows = append(whole.rows, session.Row{Id: uint64(2*i + 1), Used: uint64(60 * i), Seq: uint64(i), Reply: y})
		whole.sagas = append(whole.sagas, held{uint64(40 - 2*i), api.Saga{Steps: steps(64, 9), State: runs + i%2, Cursor: 4 * i}})
	}
	late := &paper{now: top, next: top, rows: []session.Row{{Id: 1, Used: top - 1000, Seq: top, Reply: y}, {Id: top - 1, Used: top, Seq: top - 1}}}
	late.sagas = []held{{1, api.Saga{Steps: steps(2, 1), State: runs}}}
	return []*paper{blank(), some, whole, late, {now: 5, next: 1, sagas: some.sagas[:1]}}
}

// commands: one or more of each kind, for what the samples have and what they don't.
func commands() []api.Command {
	var l []api.Command
	for _, now := range []uint64{0, 2000, 2001, top} {
		l = append(l, enters(now))
		for _, id := range []uint64{0, 7, 9, 300, top} {
			l = append(l, at(now, did(id, 1, true)), at(now, did(id, 0, false)), at(now, took(id, 1, 1, false)), at(now, took(id, 1, 0, true)))
			for _, x := range []uint64{1, 3, 8} {
				for _, seq := range []uint64{0, 1, 4, 5, top} {
					l = append(l, at(now, submits(x, seq, id, steps(2, 2))), at(now, aborts(x, seq, id)), at(now, asks(x, seq, id)))
				}
			}
		}
	}
	return l
}

// P17.1: each kind of command, of each kind of machine.
func TestEachCommand(t *testing.T) {
	for _, p := range samples() {
		for _, c := range commands() {
			hold(t, loaded(t, p), copyOf(p), c)
		}
	}
}

// P17.1: bytes that say no command: ErrForm, and nothing is done, the time doesn't go on either; whatever is said else is done.
func TestNoCommand(t *testing.T) {
	p := samples()[1]
	m, refused := loaded(t, p), 0
	apply := func(s string) {
		t.Helper()
		c, e := command.Decode(s)
		if e == api.OK {
			answers(t, loaded(t, p), copyOf(p), c)
			return
		}
		refused++
		if y := m.Apply(s); y != fault(errForm) || m.Save() != p.bytes() {
			t.Fatalf("Apply(%s) answers %+v, and leaves %s", brief(s), y, brief(m.Save()))
		}
	}
	apply("")
	for _, c := range []api.Command{at(2500, enters(2500)), at(2500, submits(8, 1, 70, steps(2, 2))), at(2500, aborts(8, 1, 7)), at(2500, did(0, 1, true)), at(2500, asks(8, 1, 7))} {
		s := bytesOf(t, c)
		for i := range s {
			apply(s[:i])
			apply(s[:i] + s[i+1:])
			for b := range 256 {
				apply(s[:i] + string([]byte{byte(b)}) + s[i+1:])
			}
		}
		apply(s + "\x00")
		apply(s + s)
	}
	holdMachine(t, m, p)
	if refused < 1000 {
		t.Errorf("only %d texts said no command", refused)
	}
}

// P17.1: sessions get their numbers one by one; 16 there may be; ErrFull tells no number.
func TestRegister(t *testing.T) {
	m, p := machine.New(), blank()
	for n := uint64(1); n <= 16; n++ {
		c := enters(n)
		c.Session, c.Seq, c.Saga = 3, n, 7 // of no meaning here
		if y := hold(t, m, p, c); y != (api.Reply{Num: n}) {
			t.Fatalf("Register answers %+v, want number %d", y, n)
		}
	}
	for range 3 {
		if y := hold(t, m, p, enters(20)); y != fault(errFull) {
			t.Fatalf("Register answers %+v where there are 16 sessions", y)
		}
	}
	if y := hold(t, m, p, enters(1001)); y != fault(errFull) {
		t.Fatalf("Register answers %+v where none is gone yet", y)
	}
	if y := hold(t, m, p, enters(1002)); y != (api.Reply{Num: 17}) { // number 1 is gone by this very command's time
		t.Fatalf("Register answers %+v", y)
	}
	p = &paper{next: top - 1}
	m = loaded(t, p)
	if y := hold(t, m, p, enters(0)); y != (api.Reply{Num: top - 1}) {
		t.Fatalf("Register answers %+v", y)
	}
	if y := hold(t, m, p, enters(5000)); y != fault(errFull) || len(m.Sessions()) != 0 {
		t.Fatalf("Register answers %+v behind the last number", y)
	}
}

// P17.1: the time goes on by each kind of command, whatever comes of it, ahead of all else; never back.
func TestClock(t *testing.T) {
	from := &paper{now: 900, next: 9, rows: []session.Row{{Id: 2, Used: 500}, {Id: 5, Used: 900, Seq: 1, Reply: api.Reply{Num: 1}}}}
	from.sagas = []held{{7, api.Saga{Steps: steps(2, 2), State: runs}}}
	kinds := []api.Command{
		enters(0), submits(5, 2, 8, steps(1, 1)), submits(5, 2, 7, steps(1, 1)), submits(5, 1, 8, steps(1, 1)), submits(2, 2, 8, steps(1, 1)), submits(6, 1, 8, steps(1, 1)),
		aborts(5, 2, 7), aborts(5, 2, 8), asks(5, 2, 7), asks(2, 1, 7), asks(2, 0, 7), asks(3, 1, 7), did(7, 0, true), did(7, 1, true), did(8, 0, true), took(7, 0, 0, true),
	}
	for _, c := range kinds {
		for _, now := range append(edges(), 899, 900, 901, 1499, 1500, 1501, 1502, 1899, 1900, 1901, 1902) {
			m, p := loaded(t, from), copyOf(from)
			hold(t, m, p, at(now, c))
			if want := max(now, 900); p.now != want {
				t.Fatalf("the paper is at %d, want %d", p.now, want)
			}
			if now > 1900 && slices.ContainsFunc(m.Sessions(), func(x session.Row) bool { return x.Id == 2 || x.Id == 5 }) {
				t.Fatalf("at %d a session is there that wasn't used: %s", now, brief(m.Sessions()))
			}
		}
	}
}

// P17.1: a command counts 1000 units behind the last use, and no longer.
func TestExpired(t *testing.T) {
	for _, late := range []uint64{0, 1, 999, 1000, 1001, 1002, 1 << 40} {
		m, p := machine.New(), blank()
		hold(t, m, p, enters(50))
		hold(t, m, p, at(60, submits(1, 1, 7, steps(2, 1))))
		hold(t, m, p, at(60+late, did(7, 0, true))) // of no session
		y := hold(t, m, p, at(60+late, aborts(1, 2, 7)))
		if want := (api.Reply{Num: back, Extra: 1}); late <= 1000 && y != want {
			t.Errorf("%d later Abort answers %+v", late, y)
		}
		if s, ok := m.Saga(7); late > 1000 && (y != fault(errExpired) || !ok || s.State != runs) {
			t.Errorf("%d later Abort answers %+v, and the saga is %+v", late, y, s)
		}
	}
}

// P17.1: up to 16 sagas, of any numbers, ended or not; a number that is there is told as such first.
func TestSubmit(t *testing.T) {
	m, p := machine.New(), blank()
	hold(t, m, p, enters(0))
	seq := uint64(0)
	submitted := func(id uint64, l []api.Step) api.Reply {
		t.Helper()
		seq++
		return hold(t, m, p, submits(1, seq, id, l))
	}
	long := []api.Step{{Part: 3, Name: "\x00\xff of 16 bytes..", Budget: 9}, {Part: 0, Name: "x", Budget: 1}}
	for i, id := range []uint64{9, 0, top, 1 << 63, 5, 4, 1<<32 + 5, 255, 256, 300, 17, 16, 1, 2, 3, 1000} {
		l := [][]api.Step{steps(1, 9), steps(64, 9), long}[i%3]
		if y := submitted(id, l); y != (api.Reply{Num: runs}) {
			t.Fatalf("Submit(%d) answers %+v", id, y)
		}
		if s, ok := m.Saga(id); !ok || !reflect.DeepEqual(s, api.Saga{Steps: l, State: runs}) {
			t.Fatalf("Saga(%d) answers %s", id, brief(s))
		}
		hold(t, m, p, did(id, 0, i%2 == 0)) // some of them are done, or undone
		if y := submitted(id, steps(3, 3)); y != fault(errTwice) {
			t.Fatalf("Submit(%d) answers %+v the second time", id, y)
		}
	}
	for _, id := range []uint64{6, 7, 8, 1 << 40, top - 1} {
		if y := submitted(id, steps(1, 1)); y != fault(errFull) {
			t.Fatalf("Submit(%d) answers %+v where there are 16 sagas", id, y)
		}
	}
	for _, id := range []uint64{9, 0, top, 1000} {
		if y := submitted(id, steps(1, 1)); y != fault(errTwice) {
			t.Fatalf("Submit(%d) answers %+v where there are 16 sagas and it is one of them", id, y)
		}
	}
}

// places: a saga of two steps with budget 2 at each place, and what it is told as.
func places() map[api.Reply]api.Saga {
	l := map[api.Reply]api.Saga{}
	for _, s := range []api.Saga{
		{State: runs}, {State: runs, Cursor: 1}, {State: back}, {State: back, Cursor: 1, Failed: 1},
		{State: done, Cursor: 2}, {State: undone}, {State: stuck, Failed: 2}, {State: stuck, Cursor: 1, Failed: 2},
	} {
		s.Steps = steps(2, 2)
		l[told(&s)] = s
	}
	return l
}

// P17.1: Abort and Query of a saga at each place; one that doesn't run is told as it is.
func TestAbortAndQuery(t *testing.T) {
	for y, s := range places() {
		from := &paper{next: 2, rows: []session.Row{{Id: 1}}, sagas: []held{{7, s}, {8, s}}}
		m, p := loaded(t, from), copyOf(from)
		if got := hold(t, m, p, asks(1, 1, 7)); got != y {
			t.Errorf("Query answers %+v, want %+v", got, y)
		}
		want := y
		if s.State == runs {
			want.Num = back
		}
		if got := hold(t, m, p, aborts(1, 2, 7)); got != want {
			t.Errorf("Abort answers %+v, want %+v", got, want)
		}
		if got := hold(t, m, p, asks(1, 3, 7)); got != want {
			t.Errorf("Query answers %+v behind Abort, want %+v", got, want)
		}
		if got := hold(t, m, p, asks(1, 4, 8)); got != y {
			t.Errorf("Query of another saga answers %+v, want %+v", got, y)
		}
		for i, c := range []api.Command{asks(1, 5, 6), aborts(1, 6, 9), asks(1, 7, 0), aborts(1, 8, top)} {
			if got := hold(t, m, p, c); got != fault(errSaga) {
				t.Errorf("%d: %+v is answered where there is no such saga", i, got)
			}
		}
	}
}

// P17.1: each outcome of a saga at each place; no session plays a part in it.
func TestOutcome(t *testing.T) {
	for _, s := range places() {
		from := &paper{now: 3, next: 2, rows: []session.Row{{Id: 1}}, sagas: []held{{7, s}, {8, s}}}
		for step := range 4 {
			for try := range 4 {
				for k := range 4 {
					c := took(7, step, try, k%2 == 0)
					c.Back = k < 2
					m, p := loaded(t, from), copyOf(from)
					hold(t, m, p, c)
					hold(t, m, p, c) // at most one of the two counts
					c.Saga = 6
					if y := hold(t, m, p, c); y != fault(errSaga) {
						t.Fatalf("%+v is answered where there is no such saga", y)
					}
				}
			}
		}
	}
	m, p := machine.New(), blank()
	if y := hold(t, m, p, did(0, 0, true)); y != fault(errSaga) {
		t.Errorf("a new machine answers %+v", y)
	}
}

// P17.1, P3: sagas through to each end, told at each outcome.
func TestEnds(t *testing.T) {
	for i, run := range []struct {
		l    []api.Command
		want []api.Reply
	}{
		{[]api.Command{did(7, 0, true), did(7, 1, true), did(7, 1, true)}, []api.Reply{{Num: 1, Extra: 1}, {Num: 3, Extra: 2}, {Err: errStale}}},
		{[]api.Command{did(7, 0, false), took(7, 0, 0, true)}, []api.Reply{{Num: 4}, {Err: errStale}}},
		{[]api.Command{did(7, 0, true), did(7, 1, false), took(7, 0, 0, true), did(7, 0, true)}, []api.Reply{{Num: 1, Extra: 1}, {Num: 2}, {Num: 4}, {Err: errStale}}},
		{[]api.Command{did(7, 0, true), aborts(1, 2, 7), took(7, 1, 0, false), took(7, 1, 0, false), took(7, 1, 1, true), took(7, 0, 0, false), took(7, 0, 1, false), took(7, 0, 1, true)},
			[]api.Reply{{Num: 1, Extra: 1}, {Num: 2, Extra: 1}, {Num: 2, Extra: 1}, {Err: errStale}, {Num: 2}, {Num: 2}, {Num: 5}, {Err: errStale}}},
		{[]api.Command{aborts(1, 2, 7), did(7, 0, true), took(7, 0, 8, true)}, []api.Reply{{Num: 2}, {Err: errStale}, {Num: 4}}},
	} {
		m, p := machine.New(), blank()
		hold(t, m, p, enters(0))
		hold(t, m, p, submits(1, 1, 7, steps(2, 2)))
		for k, c := range run.l {
			if y := hold(t, m, p, c); y != run.want[k] {
				t.Errorf("%d, %d: %+v is answered, want %+v", i, k, y, run.want[k])
			}
		}
	}
}

// shorts: commands of which all short runs are made: two sessions, two sagas, of two steps and of one.
func shorts() []api.Command {
	return []api.Command{
		enters(0), at(1001, enters(0)), submits(1, 1, 7, steps(2, 2)), submits(2, 1, 3, steps(1, 1)), submits(1, 2, 3, steps(1, 1)),
		aborts(1, 2, 7), aborts(2, 2, 7), asks(1, 1, 7), at(600, asks(2, 1, 3)), did(7, 0, true), did(7, 0, false), took(7, 0, 0, true), did(3, 0, true),
	}
}

// P17.1, P17.2: all short runs, each from a machine that was saved and loaded at each command.
func TestAllRuns(t *testing.T) {
	var from func(s string, p *paper, left int)
	from = func(s string, p *paper, left int) {
		for _, c := range shorts() {
			m, e := machine.Load(s)
			if e != api.OK {
				t.Fatalf("Load answers %d of %s", int(e), brief(s))
			}
			q := copyOf(p)
			answers(t, m, q, c)
			saved := m.Save()
			if saved != q.bytes() {
				t.Fatalf("behind %s Save answers %s, want %s", brief(c), brief(saved), brief(q.bytes()))
			}
			if left > 1 {
				from(saved, q, left-1)
			}
		}
	}
	from("", blank(), 4)
	m, p := machine.New(), blank()
	for _, c := range []api.Command{enters(0), enters(0), submits(1, 1, 7, steps(2, 2))} {
		hold(t, m, p, c)
	}
	from(m.Save(), p, 4)
}

// P17.1: long runs of any commands.
func TestLongRuns(t *testing.T) {
	counts := map[string]int{}
	for seed := range 60 {
		r := draws(seed)
		m, p := machine.New(), blank()
		for i := range 1000 {
			c := anyCommand(r, p)
			y := answers(t, m, p, c)
			if i%20 == 0 {
				holdMachine(t, m, p)
			}
			counts[brief(y.Err)]++
		}
		holdMachine(t, m, p)
		for _, x := range p.sagas {
			counts[brief(x.saga.State+100)]++
		}
	}
	for _, n := range []int{0, errFull, errExpired, errStale, errTwice, errSaga} {
		if counts[brief(api.Errno(n))] < 50 {
			t.Errorf("the error %d came %d times", n, counts[brief(api.Errno(n))])
		}
	}
	for state := runs; state <= stuck; state++ {
		if counts[brief(state+100)] < 5 {
			t.Errorf("%d sagas are in state %d behind all", counts[brief(state+100)], state)
		}
	}
}

// P0: any bytes, and commands with any numbers.
func TestChance(t *testing.T) {
	r := draws(1000)
	m := machine.New()
	for range 100000 {
		b := make([]byte, r.IntN(20))
		for k := range b {
			b[k] = byte(r.Uint32() >> 24 >> r.IntN(9))
		}
		s, was := string(b), m.Save()
		_, e := command.Decode(s)
		if y := m.Apply(s); e != api.OK && (y != fault(errForm) || m.Save() != was) {
			t.Fatalf("Apply(%s) answers %+v", brief(s), y)
		}
	}
	p := samples()[1]
	m = loaded(t, p)
	for range 20000 {
		hold(t, m, p, wildCommand(r))
	}
}

// wildCommand: one that may be, with numbers of any size.
func wildCommand(r *rand.Rand) api.Command {
	num := func() uint64 { return one(r, edges()...) }
	c := api.Command{Kind: 1 + r.IntN(5), Saga: num(), Now: num() >> r.IntN(64)}
	switch c.Kind {
	case outcome:
		c.Step, c.Back, c.Try, c.Ok = one(r, 0, 1, 63), r.IntN(2) == 0, one(r, 0, 1, 8), r.IntN(2) == 0
		return c
	case submit:
		c.Steps = steps(one(r, 1, 2, 64), 1+r.IntN(9))
	}
	c.Session, c.Seq = num(), num()
	return c
}

// P17.1, rule 7: what a nil machine answers, whatever it is given.
func TestNilMachine(t *testing.T) {
	var m *machine.Machine
	for range 2 {
		for _, s := range []string{"", "bytes", bytesOf(t, enters(5)), bytesOf(t, did(7, 0, true)), bytesOf(t, submits(1, 1, 7, steps(1, 1))), bytesOf(t, asks(1, 1, 7))} {
			if y := m.Apply(s); y != fault(errArg) {
				t.Errorf("Apply(%s) answers %+v", brief(s), y)
			}
		}
		for _, n := range edges() {
			if s, ok := m.Saga(n); ok || !reflect.DeepEqual(s, api.Saga{}) {
				t.Errorf("Saga(%d) answers %+v, %v", n, s, ok)
			}
		}
		if len(m.Sagas()) != 0 || len(m.Sessions()) != 0 || m.Save() != "" {
			t.Error("a nil machine has something")
		}
	}
}

// P0: a machine that no call made doesn't panic.
func TestNoMachine(t *testing.T) {
	m := new(machine.Machine)
	for _, c := range commands() {
		m.Apply(bytesOf(t, c))
	}
	m.Apply("bytes")
	m.Saga(7)
	m.Sagas()
	m.Sessions()
	machine.Load(m.Save())
}

// Rule 4: what a machine answers is new: nothing that is done to it changes the machine or another answer, nor does the machine change it.
func TestAnswersAreNew(t *testing.T) {
	for _, p := range samples() {
		m := loaded(t, p)
		for _, id := range append(m.Sagas(), 12345) {
			a, _ := m.Saga(id)
			b, _ := m.Saga(id)
			was := slices.Clone(b.Steps)
			_ = append(a.Steps[:len(a.Steps):cap(a.Steps)], api.Step{Name: "spoiled"})
			clear(a.Steps[:cap(a.Steps)])
			if !slices.Equal(b.Steps, was) {
				t.Fatal("two answers share memory")
			}
		}
		l, rows := m.Sagas(), m.Sessions()
		clear(l[:cap(l)])
		clear(rows[:cap(rows)])
		holdMachine(t, m, p)
	}
	m, p := machine.New(), blank()
	hold(t, m, p, enters(0))
	hold(t, m, p, submits(1, 1, 7, steps(2, 1)))
	l, rows, s := m.Sagas(), m.Sessions(), m.Save()
	x, _ := m.Saga(7)
	hold(t, m, p, did(7, 0, true))
	hold(t, m, p, submits(1, 2, 3, steps(2, 1)))
	hold(t, m, p, enters(0))
	want := &paper{next: 2, rows: []session.Row{{Id: 1, Seq: 1, Reply: api.Reply{Num: 1}}}, sagas: []held{{7, api.Saga{Steps: steps(2, 1), State: runs}}}}
	if !slices.Equal(l, []uint64{7}) || !slices.Equal(rows, want.rows) || !reflect.DeepEqual(x, want.sagas[0].saga) || s != want.bytes() {
		t.Fatal("the machine changes what it answered")
	}
}

// Rule 8: machines don't hang on each other: side by side, each answers as if it were alone, and the same commands make the same of each.
func TestSideBySide(t *testing.T) {
	r := draws(2000)
	from := samples()[1]
	var all []*machine.Machine
	var papers []*paper
	for range 3 {
		all, papers = append(all, machine.New(), loaded(t, from)), append(papers, blank(), copyOf(from))
	}
	for range 4000 {
		i := r.IntN(len(all))
		answers(t, all[i], papers[i], anyCommand(r, papers[i]))
		k := r.IntN(len(all))
		holdMachine(t, all[k], papers[k])
	}
}
