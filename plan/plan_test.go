package plan_test

import (
	"fmt"
	"math"
	"math/big"
	"math/rand/v2"
	"slices"
	"strings"
	"testing"

	"tontine/api"
	"tontine/pack"
	"tontine/plan"
)

// The chapter's numbers.
const (
	mostSteps  = 64
	mostPart   = 3
	mostName   = 16
	mostBudget = 9
)

// numberBytes are a number's bytes by layer 3's words, by another way than the program's.
func numberBytes(x uint64) string {
	b := new(big.Int).SetUint64(x).Bytes() // the highest first, the first of them not 0
	return string(append([]byte{byte(len(b))}, b...))
}

// unsigned: x, or 2^64 and x, if it is below 0.
func unsigned(x int) uint64 {
	n := big.NewInt(int64(x))
	if x < 0 {
		n.Add(n, new(big.Int).Lsh(big.NewInt(1), 64))
	}
	return n.Uint64()
}

// fields: the bytes of any steps by the chapter's words, a number or text each.
func fields(l []api.Step) []string {
	out := []string{numberBytes(uint64(len(l)))}
	for _, x := range l {
		out = append(out, numberBytes(unsigned(x.Part)), numberBytes(uint64(len(x.Name)))+x.Name, numberBytes(unsigned(x.Budget)))
	}
	return out
}

func bytesOf(l []api.Step) string { return strings.Join(fields(l), "") }

// sound: is it a definition, by the chapter's words?
func sound(l []api.Step) bool {
	for _, x := range l {
		if !slices.Contains([]int{0, 1, 2, 3}, x.Part) || !slices.Contains([]int{1, 2, 3, 4, 5, 6, 7, 8, 9}, x.Budget) {
			return false
		}
		if x.Name == "" || len(x.Name) > mostName {
			return false
		}
	}
	return len(l) != 0 && len(l) <= mostSteps
}

// front takes the number in front of bytes; false, if none stands there, or one above a limit.
func front(s string, limit uint64) (uint64, string, bool) {
	for n := 1; n <= min(len(s), 9); n++ {
		x := new(big.Int).SetBytes([]byte(s[1:n])).Uint64()
		if numberBytes(x) == s[:n] {
			return x, s[n:], x <= limit
		}
	}
	return 0, "", false
}

// meant: the steps that are read from the front of bytes, by the chapter's words, and what is left; false, if the reader fails.
func meant(s string) ([]api.Step, string, bool) {
	n, s, ok := front(s, mostSteps)
	var l []api.Step
	for ; n > 0 && ok; n-- {
		var part, length, budget uint64
		var name string
		if part, s, ok = front(s, mostPart); !ok {
			break
		}
		if length, s, ok = front(s, mostName); !ok || length > uint64(len(s)) {
			ok = false
			break
		}
		name, s = s[:length], s[length:]
		budget, s, ok = front(s, mostBudget)
		l = append(l, api.Step{Part: int(part), Name: name, Budget: int(budget)})
	}
	if !ok {
		return nil, "", false
	}
	return l, s, true
}

// one: a text of one byte.
func one(b int) string { return string([]byte{byte(b)}) }

// brief: what a test tells of steps or of bytes, which may be many, and any.
func brief(x any) string {
	s := fmt.Sprintf("%+q", fmt.Sprintf("%+v", x))
	return s[:min(len(s), 300)]
}

// written: the bytes that Write lays on a new writer.
func written(l []api.Step) string {
	w := new(pack.Writer)
	plan.Write(w, l)
	return w.Bytes()
}

// holdSteps holds Check and Write to the words at any steps, and Read at their bytes.
func holdSteps(t *testing.T, l []api.Step) {
	t.Helper()
	want := api.ErrDef
	if sound(l) {
		want = api.OK
	}
	if e := plan.Check(l); e != want {
		t.Fatalf("Check answers %d of %s, want %d", int(e), brief(l), int(want))
	}
	s := bytesOf(l)
	if got := written(l); got != s {
		t.Fatalf("Write lays %s of %s, want %s", brief(got), brief(l), brief(s))
	}
	if !holdRead(t, s) && sound(l) {
		t.Fatalf("the definition %s isn't read", brief(l))
	}
	if sound(l) {
		if back := plan.Read(pack.From(s)); !slices.Equal(back, l) {
			t.Fatalf("%s is read as %s", brief(l), brief(back))
		}
	}
}

// holdRead holds Read to the words at bytes, and tells whether the reader took steps from them.
func holdRead(t *testing.T, s string) bool {
	t.Helper()
	want, rest, ok := meant(s)
	r := pack.From(s)
	got := plan.Read(r)
	left, fine := r.Left()
	if !slices.Equal(got, want) || left != len(rest) || fine != ok {
		t.Fatalf("of %s is read %s, and %d, %v is left; want %s, and %d, %v", brief(s), brief(got), left, fine, brief(want), len(rest), ok)
	}
	if ok && written(got) != s[:len(s)-left] {
		t.Fatalf("%s was read, and is laid as %s", brief(s[:len(s)-left]), brief(written(got)))
	}
	return ok
}

// ints: numbers on both sides of each of the chapter's edges and of each count of bytes, and far ones.
func ints() []int {
	l := []int{math.MinInt, math.MinInt + 1, math.MinInt32, math.MaxInt32, math.MaxInt - 1, math.MaxInt, 1<<32 + 1, 1<<32 + 3, 1<<16 + 2, -1 << 8, -1 << 16, -1 << 32}
	for i := -20; i <= 300; i++ {
		l = append(l, i)
	}
	for i := 8; i < 63; i++ {
		l = append(l, 1<<i-1, 1<<i, 1<<i+1, -1<<i-1, -1<<i+1)
	}
	return l
}

// name: a text of so many bytes, of all kinds.
func name(n int) string {
	b := make([]byte, n)
	for i := range b {
		b[i] = byte(i*37 + n*11)
	}
	return string(b)
}

// steps: so many of a definition, each unlike those beside it.
func steps(n int) []api.Step {
	var l []api.Step
	for i := range n {
		l = append(l, api.Step{Part: i % 4, Name: name(1 + i%16), Budget: 1 + i%9})
	}
	return l
}

// with: l, and x at a place of it.
func with(l []api.Step, place int, x api.Step) []api.Step {
	l = slices.Clone(l)
	l[place] = x
	return l
}

// draws gives numbers that look like chance and are the same each time.
func draws(seed int) *rand.Rand { return rand.New(rand.NewPCG(uint64(seed), 13)) }

// anyDefinition draws a definition.
func anyDefinition(r *rand.Rand) []api.Step {
	l := make([]api.Step, 1+r.IntN(1+r.IntN(mostSteps)))
	for i := range l {
		b := make([]byte, 1+r.IntN(mostName))
		for k := range b {
			b[k] = byte(r.Uint32() >> r.IntN(32))
		}
		l[i] = api.Step{Part: r.IntN(mostPart + 1), Name: string(b), Budget: 1 + r.IntN(mostBudget)}
	}
	return l
}

// P13.1, P13.2: the chapter's example.
func TestExample(t *testing.T) {
	l := []api.Step{{Part: 2, Name: "pay", Budget: 3}}
	s := "\x01\x01\x01\x02\x01\x03pay\x01\x03"
	if plan.Check(l) != api.OK || written(l) != s {
		t.Errorf("Check answers %d, Write lays % x", int(plan.Check(l)), written(l))
	}
	r := pack.From(s)
	if got := plan.Read(r); !slices.Equal(got, l) || !r.Done() {
		t.Errorf("Read answers %s", brief(got))
	}
}

// P13.1: bytes written out by hand: what stands where, of a definition or not.
func TestWrittenOut(t *testing.T) {
	for _, c := range []struct {
		l    []api.Step
		want string
	}{
		{nil, "\x00"},
		{[]api.Step{}, "\x00"},
		{[]api.Step{{}}, "\x01\x01" + "\x00\x00\x00"},
		{[]api.Step{{Part: 3}}, "\x01\x01" + "\x01\x03\x00\x00"},
		{[]api.Step{{Name: "a"}}, "\x01\x01" + "\x00\x01\x01a\x00"},
		{[]api.Step{{Budget: 9}}, "\x01\x01" + "\x00\x00\x01\x09"},
		{[]api.Step{{Name: "a\x00", Budget: 1}, {Part: 1, Name: "\xff", Budget: 2}}, "\x01\x02" + "\x00\x01\x02a\x00\x01\x01" + "\x01\x01\x01\x01\xff\x01\x02"},
		{[]api.Step{{Part: -1, Name: "b", Budget: -2}}, "\x01\x01" + "\x08\xff\xff\xff\xff\xff\xff\xff\xff" + "\x01\x01b" + "\x08\xff\xff\xff\xff\xff\xff\xff\xfe"},
		{[]api.Step{{Part: math.MinInt64, Budget: math.MaxInt64}}, "\x01\x01" + "\x08\x80\x00\x00\x00\x00\x00\x00\x00" + "\x00" + "\x08\x7f\xff\xff\xff\xff\xff\xff\xff"},
		{[]api.Step{{Part: 256, Name: strings.Repeat("n", 256), Budget: 10}}, "\x01\x01" + "\x02\x01\x00" + "\x02\x01\x00" + strings.Repeat("n", 256) + "\x01\x0a"},
		{make([]api.Step, 64), "\x01\x40" + strings.Repeat("\x00", 192)},
		{make([]api.Step, 256), "\x02\x01\x00" + strings.Repeat("\x00", 768)},
	} {
		if got := written(c.l); got != c.want {
			t.Errorf("Write lays %s of %s, want %s", brief(got), brief(c.l), brief(c.want))
		}
		holdSteps(t, c.l)
	}
}

// P13.1: 1 to 64 steps.
func TestHowMany(t *testing.T) {
	for _, n := range []int{0, 1, 2, 3, 15, 16, 17, 62, 63, 64, 65, 66, 127, 128, 129, 255, 256, 257, 1 << 16} {
		want := api.ErrDef
		if n >= 1 && n <= 64 {
			want = api.OK
		}
		if e := plan.Check(steps(n)); e != want {
			t.Errorf("Check answers %d of %d steps", int(e), n)
		}
		if holdRead(t, bytesOf(steps(n))) != (n <= 64) {
			t.Errorf("%d steps are read: %v", n, n > 64)
		}
		holdSteps(t, steps(n))
		holdSteps(t, make([]api.Step, n))
	}
}

// P13.1: a Part of 0 to 3, a Budget of 1 to 9; Read takes a Budget of 0 too.
func TestNumbersAtEdges(t *testing.T) {
	for _, i := range ints() {
		part, budget := []api.Step{{Part: i, Name: "a", Budget: 1}}, []api.Step{{Name: "a", Budget: i}}
		if e := plan.Check(part); (e == api.OK) != (i >= 0 && i <= 3) {
			t.Errorf("Part %d: Check answers %d", i, int(e))
		}
		if e := plan.Check(budget); (e == api.OK) != (i >= 1 && i <= 9) {
			t.Errorf("Budget %d: Check answers %d", i, int(e))
		}
		if holdRead(t, bytesOf(part)) != (i >= 0 && i <= 3) || holdRead(t, bytesOf(budget)) != (i >= 0 && i <= 9) {
			t.Errorf("%d isn't read as it should be", i)
		}
		holdSteps(t, part)
		holdSteps(t, budget)
		holdSteps(t, []api.Step{{Part: i, Name: "a", Budget: i}})
	}
}

// P13.1: a Name of 1 to 16 bytes, whatever they are; Read takes an empty one too.
func TestNames(t *testing.T) {
	for _, n := range []int{0, 1, 2, 3, 14, 15, 16, 17, 18, 32, 64, 254, 255, 256, 257, 65535, 65536} {
		for _, s := range []string{name(n), strings.Repeat("\x00", n), strings.Repeat("\xff", n), strings.Repeat("x", n)} {
			l := []api.Step{{Name: s, Budget: 1}}
			if e := plan.Check(l); (e == api.OK) != (n >= 1 && n <= 16) {
				t.Errorf("a Name of %d bytes: Check answers %d", n, int(e))
			}
			if holdRead(t, bytesOf(l)) != (n <= 16) {
				t.Errorf("a Name of %d bytes is read: %v", n, n > 16)
			}
			holdSteps(t, l)
		}
	}
	for s, want := range map[string]api.Errno{strings.Repeat("é", 8): api.OK, strings.Repeat("é", 9): api.ErrDef, strings.Repeat("\xf0\x9f\x98\x80", 4): api.OK, strings.Repeat("\xf0\x9f\x98\x80", 5): api.ErrDef, " ": api.OK, "\n": api.OK} {
		if e := plan.Check([]api.Step{{Name: s, Budget: 9}}); e != want {
			t.Errorf("Check answers %d of Name %+q", int(e), s)
		}
		holdSteps(t, []api.Step{{Name: s, Budget: 9}})
	}
}

// P13.1: one wrong step is enough, wherever it stands.
func TestEachPlace(t *testing.T) {
	wrong := []api.Step{{}, {Part: 4, Name: "a", Budget: 1}, {Part: -1, Name: "a", Budget: 1}, {Name: "", Budget: 1}, {Name: name(17), Budget: 1}, {Name: "a", Budget: 0}, {Name: "a", Budget: -1}, {Name: "a", Budget: 10}}
	for _, n := range []int{1, 2, 3, 63, 64} {
		for place := range n {
			for _, x := range wrong {
				l := with(steps(n), place, x)
				if e := plan.Check(l); e != api.ErrDef {
					t.Fatalf("Check answers %d of %d steps with %s at %d", int(e), n, brief(x), place)
				}
				holdSteps(t, l)
			}
			for _, x := range []api.Step{{Part: 3, Name: name(16), Budget: 9}, {Part: 0, Name: "\x00", Budget: 1}} {
				holdSteps(t, with(steps(n), place, x))
			}
		}
	}
	for place := range 3 { // a wrong one beside another wrong one
		for _, x := range wrong {
			for _, y := range wrong {
				holdSteps(t, with([]api.Step{x, x, x}, place, y))
			}
		}
	}
}

// P13.1: what is read need not be a definition: each number and text has a greatest value alone.
func TestReadIsWider(t *testing.T) {
	for s, want := range map[string][]api.Step{
		"\x00":                 nil,
		"\x01\x01\x00\x00\x00": {{}},
		"\x01\x02\x00\x00\x01\x09\x01\x03\x01\x01s\x00": {{Budget: 9}, {Part: 3, Name: "s"}},
	} {
		r := pack.From(s)
		if got := plan.Read(r); !slices.Equal(got, want) || !r.Done() {
			t.Errorf("Read answers %s of % x", brief(got), s)
		}
	}
}

// P13.1: a number or text that is past its bound, or none at all, makes the reader fail, and nothing is answered, the steps ahead neither.
func TestReadFails(t *testing.T) {
	step := "\x01\x02\x01\x03pay\x01\x03"
	for _, s := range []string{
		"", "\x01", "\x01\x00", "\x02\x00\x01" + step, "\x09", "\xff", "\x01\x41" + strings.Repeat(step, 65), "\x02\x01\x00" + strings.Repeat(step, 256), "\x08\xff\xff\xff\xff\xff\xff\xff\xff" + step,
		"\x01\x01", "\x01\x02" + step, "\x01\x40" + strings.Repeat(step, 63),
		"\x01\x01" + "\x01\x04\x01\x01a\x01\x01", "\x01\x01" + "\x01\x00\x01\x01a\x01\x01", "\x01\x01" + "\x08\xff\xff\xff\xff\xff\xff\xff\xff\x01\x01a\x01\x01",
		"\x01\x01" + "\x00\x01\x11" + name(17) + "\x01\x01", "\x01\x01" + "\x00\x01\x03ab", "\x01\x01" + "\x00\x02\x00\x01a\x01\x01", "\x01\x01" + "\x00\x01\x00\x01\x01",
		"\x01\x01" + "\x00\x01\x01a\x01\x0a", "\x01\x01" + "\x00\x01\x01a\x01\x00", "\x01\x01" + "\x00\x01\x01a\x02\x00\x01", "\x01\x01" + "\x00\x01\x01a",
		"\x01\x02" + step + "\x01\x04\x01\x01a\x01\x01", "\x01\x02" + step + "\x00\x01\x11" + name(17) + "\x01\x01", "\x01\x02" + step + "\x00\x01\x01a\x01\x0a", "\x01\x03" + step + "\x01" + step,
	} {
		r := pack.From(s)
		if got := plan.Read(r); len(got) != 0 {
			t.Errorf("Read answers %s of %s", brief(got), brief(s))
		}
		failed(t, r)
		holdRead(t, s)
	}
}

// failed holds that a reader failed, and gives nothing more.
func failed(t *testing.T, r *pack.Reader) {
	t.Helper()
	for range 2 {
		if n, ok := r.Left(); n != 0 || ok || r.Done() {
			t.Fatalf("the reader didn't fail: %d, %v is left", n, ok)
		}
		if got := plan.Read(r); len(got) != 0 {
			t.Fatalf("Read answers %s of a reader that failed", brief(got))
		}
	}
}

// P13.1, rule 7: a reader that failed ahead, one at its end, and a nil one give nothing; a nil writer takes nothing.
func TestNothingThere(t *testing.T) {
	r := pack.From("\x09" + bytesOf(steps(2)))
	r.Num()
	failed(t, r)
	r = pack.From(bytesOf(steps(2)))
	plan.Read(r)
	if got := plan.Read(r); len(got) != 0 {
		t.Errorf("behind the end is read %s", brief(got))
	}
	failed(t, r)
	failed(t, nil)
	for _, l := range [][]api.Step{nil, {{}}, steps(2), steps(65)} {
		var w *pack.Writer
		plan.Write(w, l)
		if w.Bytes() != "" {
			t.Error("a nil writer has bytes")
		}
	}
}

// P13.1: Write lays behind what was laid, and Read takes from where the reader stands, and no more than the steps.
func TestBehindOthers(t *testing.T) {
	a, b := steps(3), steps(64)
	w := new(pack.Writer).Num(300)
	plan.Write(w, a)
	plan.Write(w, nil)
	w.Text("ab")
	plan.Write(w, b)
	w.Bool(true)
	if s := "\x02\x01\x2c" + bytesOf(a) + "\x00" + "\x01\x02ab" + bytesOf(b) + "\x01\x01"; w.Bytes() != s {
		t.Fatalf("Write lays %s, want %s", brief(w.Bytes()), brief(s))
	}
	r := pack.From(w.Bytes())
	if r.Num() != 300 || !slices.Equal(plan.Read(r), a) || len(plan.Read(r)) != 0 || r.Text(2) != "ab" || !slices.Equal(plan.Read(r), b) || !r.Bool() || !r.Done() {
		t.Error("what was laid isn't read as it was")
	}
}

// P13.2: definitions at all edges, each alone, and some that look like chance.
func TestThereAndBack(t *testing.T) {
	for part := 0; part <= mostPart; part++ {
		for budget := 1; budget <= mostBudget; budget++ {
			for n := 1; n <= mostName; n++ {
				holdSteps(t, []api.Step{{Part: part, Name: name(n), Budget: budget}})
			}
		}
	}
	for n := 1; n <= mostSteps; n++ {
		holdSteps(t, steps(n))
		holdSteps(t, slices.Repeat([]api.Step{{Part: 3, Name: name(16), Budget: 9}}, n))
	}
	r := draws(1)
	for range 3000 {
		l := anyDefinition(r)
		if plan.Check(l) != api.OK {
			t.Fatalf("Check refuses %s", brief(l))
		}
		holdSteps(t, l)
	}
}

// P13.2: two definitions don't have the same bytes.
func TestApart(t *testing.T) {
	seen := map[string]bool{}
	var l []api.Step
	for _, part := range []int{0, 1, 3} {
		for _, s := range []string{"a", "\x00", "\x01", "\x01\x01", "\x01\x01a\x01\x01"} {
			for _, budget := range []int{1, 9} {
				l = append(l, api.Step{Part: part, Name: s, Budget: budget})
			}
		}
	}
	for _, x := range l {
		seen[written([]api.Step{x})] = true
		for _, y := range l {
			seen[written([]api.Step{x, y})] = true
		}
	}
	if len(seen) != 30+30*30 {
		t.Errorf("%d definitions have bytes of their own", len(seen))
	}
}

// P13.1: in each field any number, in one form or another.
func TestFieldsChanged(t *testing.T) {
	numbers := []uint64{math.MaxUint64, math.MaxUint64 - 1, 1 << 63, 1<<32 + 1, 255, 256, 257}
	for n := range uint64(70) {
		numbers = append(numbers, n)
	}
	for _, l := range [][]api.Step{nil, steps(1), steps(3), {{}, {Part: 3, Name: name(16)}}} {
		f := fields(l)
		for i := range f {
			changed := slices.Clone(f)
			for _, n := range numbers {
				for _, behind := range []string{"", "a", name(16), name(64)} {
					changed[i] = numberBytes(n) + behind
					holdRead(t, strings.Join(changed, ""))
				}
			}
			changed[i] = one(int(f[i][0])+1) + "\x00" + f[i][1:]
			if holdRead(t, strings.Join(changed, "")) {
				t.Errorf("field %d of %s has a second form", i, brief(l))
			}
		}
	}
}

// P13.1: each first part of a definition's bytes, each of their bytes changed, gone, or doubled.
func TestBytesChanged(t *testing.T) {
	for _, l := range [][]api.Step{steps(1), steps(2), steps(4), {{Part: 2, Name: "pay", Budget: 3}}} {
		s := bytesOf(l)
		for i := range s {
			if holdRead(t, s[:i]) {
				t.Fatalf("the first %d bytes of %s are read", i, brief(s))
			}
			holdRead(t, s[i:])
			holdRead(t, s[:i]+s[i+1:])
			holdRead(t, s[:i]+s[i:i+1]+s[i:])
			for b := range 256 {
				holdRead(t, s[:i]+one(b)+s[i+1:])
			}
		}
		for b := range 256 {
			if !holdRead(t, s+one(b)) {
				t.Fatalf("with a byte behind, %s isn't read", brief(s))
			}
		}
	}
}

// P13.1: all short bytes over some letters, at the edges of what may stand there.
func TestAllShortBytes(t *testing.T) {
	letters, read := "\x00\x01\x03\x04\x09\x0a", 0
	level := []string{""}
	for range 8 {
		var next []string
		for _, s := range level {
			if holdRead(t, s) {
				read++
			}
			for i := range len(letters) {
				next = append(next, s+letters[i:i+1])
			}
		}
		level = next
	}
	if read < 1000 {
		t.Errorf("only %d of these were read", read)
	}
}

// P13.1, P0: any steps and any bytes that look like chance.
func TestChance(t *testing.T) {
	r := draws(2)
	all := ints()
	for range 3000 {
		l := anyDefinition(r)
		for range r.IntN(3) {
			x := &l[r.IntN(len(l))]
			switch r.IntN(3) {
			case 0:
				x.Part = all[r.IntN(len(all))]
			case 1:
				x.Name = name(r.IntN(40))
			case 2:
				x.Budget = all[r.IntN(len(all))]
			}
		}
		holdSteps(t, l)
		b := []byte(bytesOf(l))
		for range 5 {
			b[r.IntN(len(b))] = byte(r.Uint32() >> r.IntN(32))
			holdRead(t, string(b))
		}
	}
	for range 100000 {
		b := make([]byte, r.IntN(30))
		for k := range b {
			b[k] = byte(r.Uint32() >> 24 >> r.IntN(9))
		}
		holdRead(t, string(b))
	}
}

// P0: many steps and a long name, at which a way of quadratic length would not end in time.
func TestLong(t *testing.T) {
	l := slices.Repeat(steps(1), 1<<20)
	if plan.Check(l) != api.ErrDef || len(written(l)) != 4+len(l)*(len(bytesOf(steps(1)))-2) {
		t.Error("many steps aren't laid as they should be")
	}
	l = []api.Step{{Name: strings.Repeat("n", 8<<20), Budget: 1}}
	if plan.Check(l) != api.ErrDef || holdRead(t, written(l)) || len(written(l)) != 2+1+4+8<<20+2 {
		t.Error("a long name isn't laid as it should be")
	}
}

// Rule 4: what is handed in is not changed, the room behind the steps neither, nor kept.
func TestHandedIn(t *testing.T) {
	room := append(steps(66), api.Step{Part: -1, Name: name(20), Budget: 99})
	was := slices.Clone(room)
	for n := range len(room) + 1 {
		w := new(pack.Writer)
		plan.Check(room[:n])
		plan.Write(w, room[:n])
		if !slices.Equal(room, was) {
			t.Fatal("a call changes what it is handed")
		}
		s := w.Bytes()
		for i := range room {
			room[i] = api.Step{Name: "spoiled"}
		}
		if w.Bytes() != s || s != bytesOf(was[:n]) {
			t.Fatal("Write keeps what it is handed")
		}
		copy(room, was)
	}
}

// Rules 4 and 8: what is answered is new memory, and hangs on the arguments alone.
func TestAnswersAreNew(t *testing.T) {
	s := bytesOf(steps(5))
	for range 3 {
		a, b := plan.Read(pack.From(s)), plan.Read(pack.From(s))
		a = a[:cap(a)]
		for i := range a {
			a[i] = api.Step{Name: "spoiled"}
		}
		if !slices.Equal(b, steps(5)) {
			t.Fatal("two answers share memory")
		}
		plan.Read(pack.From("wrong"))
		plan.Check(nil)
		if plan.Check(steps(5)) != api.OK || written(steps(5)) != s {
			t.Fatal("an answer hangs on calls before")
		}
	}
}
