package command_test

import (
	"fmt"
	"math"
	"math/big"
	"math/rand/v2"
	"reflect"
	"slices"
	"strings"
	"testing"

	"tontine/api"
	"tontine/command"
)

// The chapter's kinds.
const (
	register = 1
	submit   = 2
	abort    = 3
	outcome  = 4
	query    = 5
)

// numberBytes are a number's bytes by layer 3's words, by another way than the program's.
func numberBytes(x uint64) string {
	b := new(big.Int).SetUint64(x).Bytes() // the highest first, the first of them not 0
	return string(append([]byte{byte(len(b))}, b...))
}

func truthBytes(x bool) string {
	if x {
		return "\x01\x01"
	}
	return "\x00"
}

// fields: a command's bytes by the chapter's words, a number or text each, whether it may be or not.
func fields(c api.Command) []string {
	var l []string
	for _, n := range []uint64{uint64(c.Kind), c.Session, c.Seq, c.Saga, c.Now} {
		l = append(l, numberBytes(n))
	}
	switch c.Kind {
	case submit:
		l = append(l, numberBytes(uint64(len(c.Steps))))
		for _, x := range c.Steps {
			l = append(l, numberBytes(uint64(x.Part)), numberBytes(uint64(len(x.Name)))+x.Name, numberBytes(uint64(x.Budget)))
		}
	case outcome:
		l = append(l, numberBytes(uint64(c.Step)), truthBytes(c.Back), numberBytes(uint64(c.Try)), truthBytes(c.Ok))
	}
	return l
}

func bytesOf(c api.Command) string { return strings.Join(fields(c), "") }

// defined: are steps a definition, by layer 13's words?
func defined(l []api.Step) bool {
	for _, x := range l {
		if !slices.Contains([]int{0, 1, 2, 3}, x.Part) || !slices.Contains([]int{1, 2, 3, 4, 5, 6, 7, 8, 9}, x.Budget) || x.Name == "" || len(x.Name) > 16 {
			return false
		}
	}
	return len(l) != 0 && len(l) <= 64
}

// may: may a command be, by the chapter's words? Of each kind the fields that it may have are taken from it, and nothing is left.
func may(c api.Command) bool {
	rest := c
	rest.Kind, rest.Saga, rest.Now = 0, 0, 0
	if len(c.Steps) == 0 {
		rest.Steps = nil
	}
	switch c.Kind {
	case register, abort, query:
		rest.Session, rest.Seq = 0, 0
	case submit:
		rest.Session, rest.Seq = 0, 0
		if !defined(c.Steps) {
			return false
		}
		rest.Steps = nil
	case outcome:
		rest.Step, rest.Back, rest.Try, rest.Ok = 0, false, 0, false
		if c.Step != c.Step&63 || !slices.Contains([]int{0, 1, 2, 3, 4, 5, 6, 7, 8}, c.Try) {
			return false
		}
	default:
		return false
	}
	return reflect.DeepEqual(rest, api.Command{})
}

// loose reads what numbers and texts may stand at the front of bytes, in one form or another: whoever asks holds what it reads to the words behind that.
type loose struct {
	left string
	bad  bool
}

func (r *loose) take(n uint64) string {
	if r.bad || n > uint64(len(r.left)) {
		r.bad = true
		return ""
	}
	s := r.left[:n]
	r.left = r.left[n:]
	return s
}

func (r *loose) num() uint64 {
	first := r.take(1)
	if first == "" {
		return 0
	}
	x := new(big.Int).SetBytes([]byte(r.take(uint64(first[0]))))
	r.bad = r.bad || !x.IsUint64()
	return x.Uint64()
}

func (r *loose) text() string { return r.take(r.num()) }

// meant: the command whose bytes s is, by the chapter's words; false, if there is none that may be.
func meant(s string) (api.Command, bool) {
	r := &loose{left: s}
	c := api.Command{Kind: int(r.num()), Session: r.num(), Seq: r.num(), Saga: r.num(), Now: r.num()}
	switch c.Kind {
	case submit:
		for n := r.num(); n > 0 && !r.bad; n-- {
			c.Steps = append(c.Steps, api.Step{Part: int(r.num()), Name: r.text(), Budget: int(r.num())})
		}
	case outcome:
		c.Step, c.Back, c.Try, c.Ok = int(r.num()), r.num() == 1, int(r.num()), r.num() == 1
	}
	if !may(c) || bytesOf(c) != s {
		return api.Command{}, false
	}
	return c, true
}

// same holds two commands against one another; no steps and nil are the same.
func same(a, b api.Command) bool {
	if len(a.Steps) == 0 && len(b.Steps) == 0 {
		a.Steps, b.Steps = nil, nil
	}
	return reflect.DeepEqual(a, b)
}

// one: a text of one byte.
func one(b int) string { return string([]byte{byte(b)}) }

// brief: what a test tells of anything, which may be much.
func brief(x any) string {
	s := fmt.Sprintf("%+q", fmt.Sprintf("%+v", x))
	return s[:min(len(s), 300)]
}

// errorOf: what Encode answers of a command by the chapter's words.
func errorOf(c api.Command) api.Errno {
	if c.Kind == submit && !defined(c.Steps) {
		return api.ErrDef
	}
	if !may(c) {
		return api.ErrArg
	}
	return api.OK
}

// holdCommand holds May, Encode and Decode to the words at a command, and tells whether it may be.
func holdCommand(t *testing.T, c api.Command) bool {
	t.Helper()
	ok := may(c)
	if command.May(c) != ok {
		t.Fatalf("May answers %v of %s", !ok, brief(c))
	}
	s, e := command.Encode(c)
	if want := errorOf(c); want != api.OK {
		if e != want || s != "" {
			t.Fatalf("Encode answers %s, %d of %s; want %d", brief(s), int(e), brief(c), int(want))
		}
		holdBytes(t, bytesOf(c))
		return ok
	}
	if want := bytesOf(c); e != api.OK || s != want {
		t.Fatalf("Encode answers %s, %d of %s; want %s", brief(s), int(e), brief(c), brief(want))
	}
	if x, e := command.Decode(s); e != api.OK || !same(x, c) {
		t.Fatalf("%s comes back as %s, %d", brief(c), brief(x), int(e))
	}
	return ok
}

// holdBytes holds Decode to the words at bytes, and tells whether they are a command's.
func holdBytes(t *testing.T, s string) bool {
	t.Helper()
	want, ok := meant(s)
	c, e := command.Decode(s)
	if !ok {
		if e != api.ErrForm || len(c.Steps) != 0 || !same(c, api.Command{}) {
			t.Fatalf("Decode answers %s, %d of %s", brief(c), int(e), brief(s))
		}
		return false
	}
	if e != api.OK || !same(c, want) {
		t.Fatalf("Decode answers %s, %d of %s; want %s", brief(c), int(e), brief(s), brief(want))
	}
	if again, e := command.Encode(c); e != api.OK || again != s {
		t.Fatalf("%s comes back as %s, %d", brief(s), brief(again), int(e))
	}
	return true
}

// ints: numbers on both sides of each of the chapter's edges, and far ones.
func ints() []int {
	l := []int{math.MinInt, math.MinInt + 1, math.MinInt32, math.MaxInt32, math.MaxInt - 1, math.MaxInt, 1 << 32, 1<<32 + 1, 1<<32 + 4, 1<<16 + 2, 1<<16 + 5, -1 << 8, -1 << 16, -1 << 32}
	for i := -70; i <= 300; i++ {
		l = append(l, i)
	}
	return l
}

// nums: the edges of each count of bytes.
func nums() []uint64 {
	l := []uint64{0, 1, 2, 300, math.MaxUint64 - 1, math.MaxUint64}
	for i := 8; i < 64; i += 8 {
		l = append(l, 1<<i-1, 1<<i, 1<<i+1)
	}
	return l
}

// name: a text of so many bytes, of all kinds.
func name(n int) string {
	b := make([]byte, n)
	for i := range b {
		b[i] = byte(i*37 + n*11)
	}
	return string(b)
}

// steps: so many of a definition, each unlike those beside it.
func steps(n int) []api.Step {
	var l []api.Step
	for i := range n {
		l = append(l, api.Step{Part: i % 4, Name: name(1 + i%16), Budget: 1 + i%9})
	}
	return l
}

// plain: the least command of a kind that may be.
func plain(kind int) api.Command {
	c := api.Command{Kind: kind}
	if kind == submit {
		c.Steps = []api.Step{{Name: "a", Budget: 1}}
	}
	return c
}

// ordinary: commands that may be, of each kind.
func ordinary() []api.Command {
	var l []api.Command
	for _, kind := range []int{register, abort, query} {
		l = append(l, plain(kind), api.Command{Kind: kind, Session: 7, Seq: 300, Saga: 5, Now: 70000}, api.Command{Kind: kind, Session: math.MaxUint64, Seq: 255, Saga: 1 << 40, Now: 256})
	}
	for _, n := range []int{1, 2, 5, 64} {
		l = append(l, api.Command{Kind: submit, Steps: steps(n)}, api.Command{Kind: submit, Session: 3, Seq: 1, Saga: math.MaxUint64, Now: 9, Steps: steps(n)})
	}
	for i := range 4 {
		l = append(l, api.Command{Kind: outcome, Saga: 1, Step: i, Back: i&1 == 1, Try: i, Ok: i&2 == 2}, api.Command{Kind: outcome, Saga: 1 << 63, Now: 400, Step: 63 - i, Back: i&2 == 2, Try: 8 - i, Ok: i&1 == 1})
	}
	return l
}

// draws gives numbers that look like chance and are the same each time.
func draws(seed int) *rand.Rand { return rand.New(rand.NewPCG(uint64(seed), 16)) }

// anyNum draws a number of any count of bytes.
func anyNum(r *rand.Rand) uint64 { return r.Uint64() >> r.IntN(65) }

// anyCommand draws a command that may be.
func anyCommand(r *rand.Rand) api.Command {
	c := api.Command{Kind: 1 + r.IntN(5), Saga: anyNum(r), Now: anyNum(r)}
	if c.Kind == outcome {
		c.Step, c.Back, c.Try, c.Ok = r.IntN(64), r.IntN(2) == 1, r.IntN(9), r.IntN(2) == 1
		return c
	}
	c.Session, c.Seq = anyNum(r), anyNum(r)
	if c.Kind == submit {
		for range 1 + r.IntN(1+r.IntN(64)) {
			c.Steps = append(c.Steps, api.Step{Part: r.IntN(4), Name: name(1 + r.IntN(16)), Budget: 1 + r.IntN(9)})
		}
	}
	return c
}

// P16.1, P16.2: the chapter's example.
func TestExample(t *testing.T) {
	c, s := api.Command{Kind: query, Session: 2, Seq: 3, Saga: 5}, "\x01\x05\x01\x02\x01\x03\x01\x05\x00"
	if got, e := command.Encode(c); e != api.OK || got != s || !command.May(c) {
		t.Errorf("Encode answers % x, %d, May %v", got, int(e), command.May(c))
	}
	if got, e := command.Decode(s); e != api.OK || !same(got, c) {
		t.Errorf("Decode answers %s, %d", brief(got), int(e))
	}
}

// P16.1, P16.2: bytes written out by hand: what stands where.
func TestWrittenOut(t *testing.T) {
	single := []api.Step{{Part: 2, Name: "pay", Budget: 3}}
	for _, x := range []struct {
		c    api.Command
		want string
	}{
		{api.Command{Kind: 1}, "\x01\x01" + "\x00\x00\x00\x00"},
		{api.Command{Kind: 1, Session: 255}, "\x01\x01" + "\x01\xff\x00\x00\x00"},
		{api.Command{Kind: 3, Seq: 256}, "\x01\x03" + "\x00\x02\x01\x00\x00\x00"},
		{api.Command{Kind: 5, Saga: 5}, "\x01\x05" + "\x00\x00\x01\x05\x00"},
		{api.Command{Kind: 3, Now: math.MaxUint64}, "\x01\x03" + "\x00\x00\x00\x08\xff\xff\xff\xff\xff\xff\xff\xff"},
		{api.Command{Kind: 5, Session: 1, Seq: 2, Saga: 3, Now: 4, Steps: []api.Step{}}, "\x01\x05" + "\x01\x01\x01\x02\x01\x03\x01\x04"},
		{api.Command{Kind: 2, Steps: single}, "\x01\x02" + "\x00\x00\x00\x00" + "\x01\x01" + "\x01\x02\x01\x03pay\x01\x03"},
		{api.Command{Kind: 2, Session: 1, Seq: 2, Saga: 3, Now: 4, Steps: []api.Step{{Name: "a\x00", Budget: 9}, {Part: 3, Name: "b", Budget: 1}}}, "\x01\x02" + "\x01\x01\x01\x02\x01\x03\x01\x04" + "\x01\x02" + "\x00\x01\x02a\x00\x01\x09" + "\x01\x03\x01\x01b\x01\x01"},
		{api.Command{Kind: 4}, "\x01\x04" + "\x00\x00\x00\x00" + "\x00\x00\x00\x00"},
		{api.Command{Kind: 4, Saga: 7, Now: 300, Step: 63}, "\x01\x04" + "\x00\x00\x01\x07\x02\x01\x2c" + "\x01\x3f\x00\x00\x00"},
		{api.Command{Kind: 4, Back: true}, "\x01\x04" + "\x00\x00\x00\x00" + "\x00\x01\x01\x00\x00"},
		{api.Command{Kind: 4, Try: 8}, "\x01\x04" + "\x00\x00\x00\x00" + "\x00\x00\x01\x08\x00"},
		{api.Command{Kind: 4, Ok: true}, "\x01\x04" + "\x00\x00\x00\x00" + "\x00\x00\x00\x01\x01"},
	} {
		if s, e := command.Encode(x.c); e != api.OK || s != x.want || !command.May(x.c) {
			t.Errorf("Encode answers % x, %d of %s; want % x", s, int(e), brief(x.c), x.want)
		}
		if c, e := command.Decode(x.want); e != api.OK || !same(c, x.c) {
			t.Errorf("Decode answers %s, %d of % x; want %s", brief(c), int(e), x.want, brief(x.c))
		}
	}
}

// P16.1: what may not be, and why it isn't encoded, written out by hand.
func TestMayNot(t *testing.T) {
	def := steps(1)
	for _, x := range []struct {
		c    api.Command
		want api.Errno
	}{
		{api.Command{}, api.ErrArg}, {api.Command{Kind: -1}, api.ErrArg}, {api.Command{Kind: 6}, api.ErrArg}, {api.Command{Kind: 257}, api.ErrArg}, {api.Command{Kind: 0, Steps: def}, api.ErrArg},
		{api.Command{Kind: 1, Steps: def}, api.ErrArg}, {api.Command{Kind: 3, Steps: def}, api.ErrArg}, {api.Command{Kind: 5, Steps: make([]api.Step, 1)}, api.ErrArg}, {api.Command{Kind: 4, Steps: def}, api.ErrArg},
		{api.Command{Kind: 1, Step: 1}, api.ErrArg}, {api.Command{Kind: 1, Back: true}, api.ErrArg}, {api.Command{Kind: 1, Try: 1}, api.ErrArg}, {api.Command{Kind: 1, Ok: true}, api.ErrArg},
		{api.Command{Kind: 3, Step: -1}, api.ErrArg}, {api.Command{Kind: 3, Back: true}, api.ErrArg}, {api.Command{Kind: 3, Try: -1}, api.ErrArg}, {api.Command{Kind: 3, Ok: true}, api.ErrArg},
		{api.Command{Kind: 5, Step: 63}, api.ErrArg}, {api.Command{Kind: 5, Back: true}, api.ErrArg}, {api.Command{Kind: 5, Try: 8}, api.ErrArg}, {api.Command{Kind: 5, Ok: true}, api.ErrArg},
		{api.Command{Kind: 2, Steps: def, Step: 1}, api.ErrArg}, {api.Command{Kind: 2, Steps: def, Back: true}, api.ErrArg}, {api.Command{Kind: 2, Steps: def, Try: 1}, api.ErrArg}, {api.Command{Kind: 2, Steps: def, Ok: true}, api.ErrArg},
		{api.Command{Kind: 2}, api.ErrDef}, {api.Command{Kind: 2, Steps: make([]api.Step, 1)}, api.ErrDef}, {api.Command{Kind: 2, Steps: steps(65)}, api.ErrDef},
		{api.Command{Kind: 2, Step: 1, Back: true, Try: -1, Ok: true}, api.ErrDef}, {api.Command{Kind: 2, Steps: make([]api.Step, 2), Ok: true}, api.ErrDef}, // the first of two errors
		{api.Command{Kind: 4, Session: 1}, api.ErrArg}, {api.Command{Kind: 4, Seq: 1}, api.ErrArg}, {api.Command{Kind: 4, Session: math.MaxUint64, Seq: math.MaxUint64}, api.ErrArg},
		{api.Command{Kind: 4, Step: -1}, api.ErrArg}, {api.Command{Kind: 4, Step: 64}, api.ErrArg}, {api.Command{Kind: 4, Try: -1}, api.ErrArg}, {api.Command{Kind: 4, Try: 9}, api.ErrArg}, {api.Command{Kind: 4, Step: 256, Try: 256}, api.ErrArg},
	} {
		if s, e := command.Encode(x.c); e != x.want || s != "" || command.May(x.c) {
			t.Errorf("Encode answers % x, %d of %s, May %v; want %d", s, int(e), brief(x.c), command.May(x.c), int(x.want))
		}
		holdCommand(t, x.c)
	}
}

// P16.1, P16.2: ordinary commands may be, and go there and back.
func TestOrdinary(t *testing.T) {
	for _, c := range ordinary() {
		if !holdCommand(t, c) || !holdBytes(t, bytesOf(c)) {
			t.Errorf("%s isn't taken", brief(c))
		}
	}
}

// P16.1, P0: all numbers as a kind, a step and a try, of each kind.
func TestNumbersAtEdges(t *testing.T) {
	for _, i := range ints() {
		for _, l := range [][]api.Step{nil, {}, steps(1), make([]api.Step, 1)} {
			holdCommand(t, api.Command{Kind: i, Steps: l})
			holdCommand(t, api.Command{Kind: i, Saga: 7, Now: 8, Steps: l, Step: 1, Back: true, Try: 2, Ok: true})
			holdCommand(t, api.Command{Kind: i, Session: 1, Seq: 2, Steps: l})
		}
		for kind := -1; kind <= 7; kind++ {
			for _, c := range []api.Command{plain(kind), {Kind: kind}} {
				c.Step = i
				if holdCommand(t, c) != (kind == outcome && i >= 0 && i <= 63 || i == 0 && kind >= 1 && kind <= 5 && (kind != submit || c.Steps != nil)) {
					t.Errorf("May is wrong of %s", brief(c))
				}
				c.Step, c.Try = 0, i
				if holdCommand(t, c) != (kind == outcome && i >= 0 && i <= 8 || i == 0 && kind >= 1 && kind <= 5 && (kind != submit || c.Steps != nil)) {
					t.Errorf("May is wrong of %s", brief(c))
				}
				c.Step = i
				holdCommand(t, c)
			}
		}
	}
}

// P16.1: of each kind all fields said or not, in each way together.
func TestAllFields(t *testing.T) {
	lists := [][]api.Step{nil, {}, steps(1), steps(64), steps(65), make([]api.Step, 1), {{Part: 4, Name: "a", Budget: 1}}, {{Name: name(17), Budget: 1}}, {{Name: "a", Budget: 10}}}
	for kind := 0; kind <= 6; kind++ {
		fit := 0
		for i := range 1 << 8 {
			for _, l := range lists {
				c := api.Command{Kind: kind, Session: uint64(i & 1), Seq: uint64(i >> 1 & 1), Saga: uint64(i >> 2 & 1), Now: uint64(i >> 3 & 1), Step: i >> 4 & 1, Back: i>>5&1 == 1, Try: i >> 6 & 1, Ok: i>>7&1 == 1, Steps: l}
				if holdCommand(t, c) {
					fit++
				}
			}
		}
		if want := []int{0, 32, 32, 32, 128, 32, 0}[kind]; fit != want { // two lists each: none and nil, or 1 and 64 steps
			t.Errorf("%d of kind %d may be, want %d", fit, kind, want)
		}
	}
}

// P16.1, P16.2: all outcomes of a step.
func TestAllOutcomes(t *testing.T) {
	fit := 0
	for step := -2; step <= 66; step++ {
		for try := -2; try <= 11; try++ {
			for i := range 4 {
				if holdCommand(t, api.Command{Kind: outcome, Saga: 7, Now: 300, Step: step, Back: i&1 == 1, Try: try, Ok: i&2 == 2}) {
					fit++
				}
			}
		}
	}
	if fit != 64*9*4 {
		t.Errorf("%d outcomes may be", fit)
	}
}

// P16.1, P16.2: any session, number, saga and time; of an outcome no session and number.
func TestAnyNumbers(t *testing.T) {
	for _, n := range nums() {
		for kind := 1; kind <= 5; kind++ {
			for i := range 4 {
				c := plain(kind)
				*[]*uint64{&c.Session, &c.Seq, &c.Saga, &c.Now}[i] = n
				if holdCommand(t, c) != (kind != outcome || i >= 2 || n == 0) {
					t.Fatalf("May is wrong of %s", brief(c))
				}
			}
			c := plain(kind)
			c.Session, c.Seq, c.Saga, c.Now = n, n, n, n
			holdCommand(t, c)
		}
	}
}

// P16.1: definitions of 1 to 64 steps, and each of the steps as a definition may have it.
func TestDefinitions(t *testing.T) {
	for _, n := range []int{0, 1, 2, 3, 63, 64, 65, 66, 127, 128, 255, 256, 257, 1 << 16} {
		c := api.Command{Kind: submit, Session: 1, Seq: 1, Saga: 1, Steps: steps(n)}
		if holdCommand(t, c) != (n >= 1 && n <= 64) || holdBytes(t, bytesOf(c)) != (n >= 1 && n <= 64) {
			t.Errorf("%d steps: May and Decode are wrong", n)
		}
	}
	for _, i := range ints() {
		for _, place := range []int{0, 1, 4} {
			for field := range 3 {
				l := steps(5)
				fits := i >= 0 && i <= 3
				switch field {
				case 0:
					l[place].Part = i
				case 1:
					l[place].Budget, fits = i, i >= 1 && i <= 9
				case 2:
					l[place].Name, fits = name(i&511), i&511 >= 1 && i&511 <= 16
				}
				c := api.Command{Kind: submit, Steps: l}
				if holdCommand(t, c) != fits || holdBytes(t, bytesOf(c)) != fits {
					t.Fatalf("field %d of step %d, %d: May and Decode are wrong", field, place, i)
				}
			}
		}
	}
}

// P16.1: bytes of no command that may be, written out by hand.
func TestDecodeWrong(t *testing.T) {
	outcomeOf := func(behind string) string { return "\x01\x04\x00\x00\x00\x00" + behind }
	wrong := []string{
		"", "\x00", "\x01", "\x01\x01", "\x01\x01\x00\x00\x00", "\x00\x00\x00\x00\x00", "\x01\x06\x00\x00\x00\x00", "\x01\xff\x00\x00\x00\x00", "\x02\x01\x01\x00\x00\x00\x00", "\x08\xff\xff\xff\xff\xff\xff\xff\xff\x00\x00\x00\x00",
		"\x02\x00\x01\x00\x00\x00\x00", "\x01\x01\x00\x00\x00\x00\x00", "\x01\x01\x00\x00\x00\x01\x00", "\x01\x01\x09\x00\x00\x00", "\x01\x03\x00\x00\x00\x00\x00\x00\x00\x00",
		"\x01\x02\x00\x00\x00\x00", "\x01\x02\x00\x00\x00\x00\x00", "\x01\x02\x00\x00\x00\x00\x01\x01\x00\x00\x00", "\x01\x02\x00\x00\x00\x00\x01\x01\x00\x01\x01a\x00", "\x01\x02\x00\x00\x00\x00\x01\x01\x00\x00\x01\x01", "\x01\x02\x00\x00\x00\x00\x01\x01\x01\x04\x01\x01a\x01\x01", "\x01\x02\x00\x00\x00\x00\x01\x01\x00\x01\x01a\x01\x01\x00", "\x01\x02\x00\x00\x00\x00\x01\x41" + strings.Repeat("\x00\x01\x01a\x01\x01", 65),
		outcomeOf(""), outcomeOf("\x00\x00\x00"), outcomeOf("\x00\x00\x00\x00\x00"), outcomeOf("\x01\x40\x00\x00\x00"), outcomeOf("\x00\x01\x02\x00\x00"), outcomeOf("\x00\x00\x01\x09\x00"), outcomeOf("\x00\x00\x00\x01\x02"),
		"\x01\x04\x01\x01\x00\x00\x00" + "\x00\x00\x00\x00", "\x01\x04\x00\x01\x01\x00\x00" + "\x00\x00\x00\x00",
		strings.Repeat("\xff", 40), strings.Repeat("\x00", 1<<16),
	}
	for _, s := range wrong {
		if c, e := command.Decode(s); e != api.ErrForm || !same(c, api.Command{}) || holdBytes(t, s) {
			t.Errorf("Decode answers %s, %d of %s", brief(c), int(e), brief(s))
		}
	}
}

// P16.2: what is decoded is encoded as it was: no field has a second form.
func TestOneForm(t *testing.T) {
	for _, c := range ordinary() {
		l := fields(c)
		for i, field := range l {
			n, behind := int(field[0]), field[1:]
			forms := []string{"", "\xff", one(n+1) + behind}
			for zeros := 1; n+zeros <= 9; zeros++ { // ahead of a number's bytes
				forms = append(forms, one(n+zeros)+strings.Repeat("\x00", zeros)+behind)
			}
			for _, form := range forms {
				changed := slices.Clone(l)
				changed[i] = form
				holdBytes(t, strings.Join(changed, ""))
			}
			changed := slices.Clone(l)
			if changed[i] = one(n+1) + "\x00" + behind; holdBytes(t, strings.Join(changed, "")) {
				t.Errorf("field %d of %s has a second form", i, brief(c))
			}
		}
	}
}

// P16.1: in each field a number that it may have, or not.
func TestFieldsChanged(t *testing.T) {
	numbers := append(nums(), 1<<31, 1<<32+1, 1<<32+2, 1<<32+4, 1<<63, 1<<63+4)
	for n := range uint64(70) {
		numbers = append(numbers, n)
	}
	for kind := 1; kind <= 5; kind++ {
		full := plain(kind)
		full.Saga, full.Now = 9, 300
		if kind == submit {
			full.Steps = steps(3)
		}
		l := fields(full)
		for i := range l {
			for _, n := range numbers {
				for _, behind := range []string{"", "a", name(16)} {
					changed := slices.Clone(l)
					changed[i] = numberBytes(n) + behind
					holdBytes(t, strings.Join(changed, ""))
				}
			}
		}
	}
}

// P16.1: each first part of a command's bytes, each of their bytes changed, gone, or doubled.
func TestBytesChanged(t *testing.T) {
	for _, c := range ordinary() {
		if len(c.Steps) > 5 {
			continue
		}
		s := bytesOf(c)
		for i := range s {
			if holdBytes(t, s[:i]) {
				t.Fatalf("the first %d bytes of %s are decoded", i, brief(s))
			}
			holdBytes(t, s[i:])
			holdBytes(t, s[:i]+s[i+1:])
			holdBytes(t, s[:i]+s[i:i+1]+s[i:])
			for b := range 256 {
				holdBytes(t, s[:i]+one(b)+s[i+1:])
			}
		}
		for b := range 256 {
			if holdBytes(t, s+one(b)) {
				t.Fatalf("a byte behind %s is decoded", brief(s))
			}
		}
		if holdBytes(t, s+s) {
			t.Fatalf("%s is decoded twice", brief(s))
		}
	}
}

// P16.1, P16.2, P0: commands that look like chance, with fields that may not be too, and their bytes, changed at some places.
func TestChance(t *testing.T) {
	r := draws(1)
	far := ints()
	for range 5000 {
		c := anyCommand(r)
		if !holdCommand(t, c) {
			t.Fatalf("May answers false of %s", brief(c))
		}
		b := []byte(bytesOf(c))
		for range 5 {
			b[r.IntN(len(b))] = byte(r.Uint32() >> r.IntN(8))
			holdBytes(t, string(b))
		}
		for range 3 {
			switch r.IntN(6) {
			case 0:
				c.Kind = r.IntN(8) - 1
			case 1:
				c.Step = far[r.IntN(len(far))]
			case 2:
				c.Try = far[r.IntN(len(far))]
			case 3:
				c.Back, c.Ok = r.IntN(2) == 1, r.IntN(2) == 1
			case 4:
				c.Steps = steps(r.IntN(70))
			case 5:
				c.Session, c.Seq = anyNum(r)&3, anyNum(r)&3
			}
			holdCommand(t, c)
		}
	}
}

// P16.1, P0: bytes that look like chance, of small numbers mostly, as a command's are.
func TestAnyBytes(t *testing.T) {
	r := draws(2)
	decoded := 0
	for i := range 200000 {
		b := make([]byte, 6+r.IntN(12))
		for k := range b {
			b[k] = byte(r.IntN(2 + i%3 + 253*(i%2)*(k%2)))
		}
		b[0], b[1] = 1, byte(1+r.IntN(6))
		if holdBytes(t, string(b)) {
			decoded++
		}
	}
	if decoded < 1000 {
		t.Errorf("only %d of these are commands' bytes", decoded)
	}
}

// P16.2: two commands don't have the same bytes.
func TestApart(t *testing.T) {
	seen := map[string]api.Command{}
	count := 0
	put := func(c api.Command) {
		count++
		s, e := command.Encode(c)
		if was, there := seen[s]; there || e != api.OK {
			t.Fatalf("%s and %s have the same bytes: %d", brief(c), brief(was), int(e))
		}
		seen[s] = c
	}
	for _, n := range []uint64{1, 255, 256, 257, 1 << 40, math.MaxUint64} {
		for kind := 1; kind <= 5; kind++ {
			for i := 1; i < 1<<4; i++ {
				c := plain(kind)
				c.Saga, c.Now = uint64(i&1)*n, uint64(i>>1&1)*n
				if kind != outcome {
					c.Session, c.Seq = uint64(i>>2&1)*n, uint64(i>>3&1)*n
					put(c)
				} else if i < 4 {
					put(c)
				}
			}
		}
	}
	for step := range 64 {
		for try := range 9 {
			for i := range 4 {
				put(api.Command{Kind: outcome, Step: step, Back: i&1 == 1, Try: try, Ok: i&2 == 2})
			}
		}
	}
	for n := 2; n <= 64; n++ {
		put(api.Command{Kind: submit, Steps: steps(n)})
	}
	if len(seen) != count {
		t.Errorf("%d commands have %d forms", count, len(seen))
	}
}

// Rule 4: what is handed in is not changed, the room behind its steps neither.
func TestHandedIn(t *testing.T) {
	room := steps(66)
	was := slices.Clone(room)
	for kind := 0; kind <= 6; kind++ {
		for n := range len(room) + 1 {
			c := api.Command{Kind: kind, Steps: room[:n]}
			command.May(c)
			command.Encode(c)
			if len(c.Steps) != n || !slices.Equal(room, was) {
				t.Fatal("a call changes what it is handed")
			}
		}
	}
}

// Rules 4 and 8: what is answered is new memory, and hangs on the arguments alone.
func TestAnswersAreNew(t *testing.T) {
	want := api.Command{Kind: submit, Session: 1, Seq: 2, Saga: 3, Now: 4, Steps: steps(5)}
	s := bytesOf(want)
	for range 3 {
		c, e := command.Decode(s)
		if e != api.OK || !same(c, want) {
			t.Fatalf("Decode answers %s, %d", brief(c), int(e))
		}
		x, _ := command.Decode(s)
		for i := range c.Steps[:cap(c.Steps)] {
			c.Steps[:cap(c.Steps)][i] = api.Step{Name: "spoiled"}
		}
		if !same(x, want) {
			t.Fatal("two answers share memory")
		}
		command.Encode(api.Command{Kind: submit})
		command.Decode("wrong")
		command.Said("wrong")
		if again, e := command.Encode(want); e != api.OK || again != s {
			t.Fatal("Encode hangs on what was encoded before")
		}
	}
}
