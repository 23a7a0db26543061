package pack_test

import (
	"math"
	"math/big"
	"math/rand/v2"
	"strings"
	"testing"

	"tontine/pack"
)

// numberBytes are a number's bytes by the chapter's words, by another way than the program's.
func numberBytes(x uint64) string {
	b := new(big.Int).SetUint64(x).Bytes() // the highest first, the first of them not 0
	return string(append([]byte{byte(len(b))}, b...))
}

// signed is the number whose bytes stand for x: twice it, or twice what it is below 0, less one.
func signed(x int64) uint64 {
	twice := new(big.Int).Mul(big.NewInt(2), big.NewInt(x))
	if x < 0 {
		twice.Neg(twice).Sub(twice, big.NewInt(1))
	}
	return twice.Uint64()
}

// draws gives numbers that look like chance and are the same each time.
func draws(seed int) *rand.Rand { return rand.New(rand.NewPCG(uint64(seed), 3)) }

// numbers are the edges of each count of bytes, each bit alone, and some of each length that look like chance.
func numbers() []uint64 {
	out := []uint64{0, 300, math.MaxInt64, math.MaxUint64, 0x0100000000000000, 0x00FF00FF00FF00FF, 0xFF00FF00FF00FF00}
	r := draws(1)
	for i := range 64 {
		p := uint64(1) << i
		out = append(out, p, p-1, p+1, ^p, r.Uint64()>>i, r.Uint64()>>i)
	}
	return out
}

// texts are of lengths around those at which a length needs another byte.
func texts() []string {
	out := []string{"", "a", "ab", "\x00", "\x00\x00", "\xff", "\x01\x00", "é", "\xc3\x28"}
	for _, n := range []int{15, 16, 17, 254, 255, 256, 257, 65535, 65536} {
		out = append(out, strings.Repeat("x", n), strings.Repeat("\x00", n))
	}
	return out
}

// P3.1: the chapter's examples, and some written out by its words.
func TestLaid(t *testing.T) {
	lay := func() *pack.Writer { return new(pack.Writer) }
	for i, x := range []struct {
		w    *pack.Writer
		want string
	}{
		{lay(), ""},
		{lay().Num(0), "\x00"},
		{lay().Num(1), "\x01\x01"},
		{lay().Num(255), "\x01\xff"},
		{lay().Num(256), "\x02\x01\x00"},
		{lay().Num(300), "\x02\x01\x2c"},
		{lay().Num(0x010000), "\x03\x01\x00\x00"},
		{lay().Num(math.MaxUint64), "\x08\xff\xff\xff\xff\xff\xff\xff\xff"},
		{lay().Int(0), "\x00"},
		{lay().Int(-1), "\x01\x01"},
		{lay().Int(1), "\x01\x02"},
		{lay().Int(-2), "\x01\x03"},
		{lay().Int(127), "\x01\xfe"},
		{lay().Int(-128), "\x01\xff"},
		{lay().Int(128), "\x02\x01\x00"},
		{lay().Int(math.MaxInt64), "\x08\xff\xff\xff\xff\xff\xff\xff\xfe"},
		{lay().Int(math.MinInt64), "\x08\xff\xff\xff\xff\xff\xff\xff\xff"},
		{lay().Bool(false), "\x00"},
		{lay().Bool(true), "\x01\x01"},
		{lay().Text(""), "\x00"},
		{lay().Text("ab"), "\x01\x02ab"},
		{lay().Text("\x00"), "\x01\x01\x00"},
		{lay().Text("b").Num(7).Bool(true).Int(-1).Text("").Num(0), "\x01\x01b\x01\x07\x01\x01\x01\x01\x00\x00"},
	} {
		if got := x.w.Bytes(); got != x.want {
			t.Errorf("writer %d: Bytes answers % x, want % x", i, got, x.want)
		}
	}
}

// P3.1: Num, Int, Bool and Text lay the words' bytes, at all edges.
func TestLaidAtEdges(t *testing.T) {
	hold := func(w *pack.Writer, want string) {
		t.Helper()
		if got := w.Bytes(); got != want {
			t.Errorf("Bytes answers % x, want % x", got, want)
		}
	}
	for _, x := range numbers() {
		hold(new(pack.Writer).Num(x), numberBytes(x))
		hold(new(pack.Writer).Int(int64(x)), numberBytes(signed(int64(x))))
	}
	for _, s := range texts() {
		hold(new(pack.Writer).Text(s), numberBytes(uint64(len(s)))+s)
	}
}

// P3.1: each call lays behind all others and answers the writer; Bytes takes nothing away.
func TestWriterGoesOn(t *testing.T) {
	w := new(pack.Writer)
	want := ""
	step := func(after *pack.Writer, more string) {
		t.Helper()
		want += more
		if after != w {
			t.Fatal("a call answers another writer")
		}
		if w.Bytes() != want || w.Bytes() != want {
			t.Fatalf("Bytes answers % x, want % x", w.Bytes(), want)
		}
	}
	for i, x := range numbers() {
		step(w.Num(x), numberBytes(x))
		step(w.Int(int64(x)), numberBytes(signed(int64(x))))
		step(w.Bool(i%2 == 0), numberBytes(uint64(1-i%2)))
		step(w.Text("abc"[:i%4]), numberBytes(uint64(i%4))+"abc"[:i%4])
	}
}

// whole holds that a reader has read all, and never failed.
func whole(t *testing.T, r *pack.Reader) {
	t.Helper()
	if n, ok := r.Left(); n != 0 || !ok || !r.Done() {
		t.Errorf("Left answers %d, %v and Done %v, want 0 and true", n, ok, r.Done())
	}
}

// failed holds that a reader gives nothing, whatever is asked.
func failed(t *testing.T, what string, r *pack.Reader) {
	t.Helper()
	for range 2 {
		if n, ok := r.Left(); n != 0 || ok {
			t.Errorf("%s: Left answers %d, %v, want 0, false", what, n, ok)
		}
		if r.Done() {
			t.Errorf("%s: Done answers true", what)
		}
		if r.Num() != 0 || r.Int() != 0 || r.Up(math.MaxInt) != 0 || r.Up(-1) != 0 || r.Bool() {
			t.Errorf("%s: a number is answered", what)
		}
		if r.Text(math.MaxInt) != "" || r.Text(0) != "" || r.Text(-1) != "" {
			t.Errorf("%s: a text is answered", what)
		}
	}
}

// P3.1 and P3.2: each edge is read by each call that takes it.
func TestRead(t *testing.T) {
	for _, x := range numbers() {
		r := pack.From(numberBytes(x))
		if got := r.Num(); got != x {
			t.Errorf("Num answers %d, want %d", got, x)
		}
		whole(t, r)
		r = pack.From(numberBytes(signed(int64(x))))
		if got := r.Int(); got != int64(x) {
			t.Errorf("Int answers %d, want %d", got, int64(x))
		}
		whole(t, r)
	}
	for _, s := range texts() {
		for _, limit := range []int{len(s), len(s) + 1, math.MaxInt} {
			r := pack.From(numberBytes(uint64(len(s))) + s)
			if got := r.Text(limit); got != s {
				t.Errorf("Text of %d bytes up to %d answers %d bytes", len(s), limit, len(got))
			}
			whole(t, r)
		}
	}
	for _, x := range []bool{false, true} {
		r := pack.From(new(pack.Writer).Bool(x).Bytes())
		if r.Bool() != x {
			t.Errorf("Bool doesn't answer %v", x)
		}
		whole(t, r)
	}
}

// P3.1: Up takes a number up to its limit, that one too, and none above, nor any at a limit below 0.
func TestUp(t *testing.T) {
	limits := []int{math.MinInt, math.MinInt + 1, -256, -2, -1, 0, 1, 2, 255, 256, 300, math.MaxInt32, math.MaxInt - 1, math.MaxInt}
	for _, x := range append(numbers(), math.MaxInt-1, math.MaxInt, math.MaxInt+1) {
		for _, limit := range limits {
			r := pack.From(numberBytes(x) + "rest")
			got := r.Up(limit)
			n, ok := r.Left()
			switch {
			case limit >= 0 && x <= uint64(limit):
				if uint64(got) != x || n != 4 || !ok {
					t.Errorf("Up(%d) of %d answers %d, and %d, %v is left", limit, x, got, n, ok)
				}
			case got != 0 || n != 0 || ok:
				t.Errorf("Up(%d) of %d answers %d, and %d, %v is left; want a failure", limit, x, got, n, ok)
			}
		}
	}
}

// calls are all ways to take something, as functions that tell whether what they took is the zero value.
func calls() map[string]func(*pack.Reader) bool {
	return map[string]func(*pack.Reader) bool{
		"Num":          func(r *pack.Reader) bool { return r.Num() == 0 },
		"Int":          func(r *pack.Reader) bool { return r.Int() == 0 },
		"Up(300)":      func(r *pack.Reader) bool { return r.Up(300) == 0 },
		"Up(MaxInt)":   func(r *pack.Reader) bool { return r.Up(math.MaxInt) == 0 },
		"Bool":         func(r *pack.Reader) bool { return !r.Bool() },
		"Text(300)":    func(r *pack.Reader) bool { return r.Text(300) == "" },
		"Text(MaxInt)": func(r *pack.Reader) bool { return r.Text(math.MaxInt) == "" },
	}
}

// P3.1: what is no number, for any call: too few bytes, too many, and a 0 ahead; then the reader gives nothing.
func TestNoNumber(t *testing.T) {
	l := []string{"", "\x09123456789", "\x0912345678", "\xff", "\x80", strings.Repeat("\xff", 300)}
	for n := 1; n <= 8; n++ {
		head := string([]byte{byte(n)})
		for k := range n {
			l = append(l, head+strings.Repeat("\x01", k))
		}
		l = append(l, head+"\x00"+strings.Repeat("\x01", n-1), head+strings.Repeat("\x00", n), head+"\x00\x05"+"more than enough")
	}
	for _, s := range l {
		for name, call := range calls() {
			r := pack.From(s)
			if !call(r) {
				t.Errorf("%s of % x answers something", name, s)
			}
			failed(t, name, r)
		}
	}
}

// P3.1: what isn't what is asked for, though a number stands there; beside the failure nothing is answered.
func TestRefused(t *testing.T) {
	most := numberBytes(math.MaxInt)
	for i, x := range []struct {
		s    string
		zero func(*pack.Reader) bool
	}{
		{"\x01\x05rest", func(r *pack.Reader) bool { return r.Up(4) == 0 }},
		{"\x01\x01", func(r *pack.Reader) bool { return r.Up(0) == 0 }},
		{"\x00", func(r *pack.Reader) bool { return r.Up(-1) == 0 }},
		{"\x01\x01", func(r *pack.Reader) bool { return r.Up(math.MinInt) == 0 }},
		{"\x08\x80\x00\x00\x00\x00\x00\x00\x00", func(r *pack.Reader) bool { return r.Up(math.MaxInt) == 0 }},
		{"\x08\xff\xff\xff\xff\xff\xff\xff\xff", func(r *pack.Reader) bool { return r.Up(math.MaxInt) == 0 }},
		{"\x01\x02", func(r *pack.Reader) bool { return !r.Bool() }},
		{"\x01\x03", func(r *pack.Reader) bool { return !r.Bool() }},
		{"\x02\x01\x01", func(r *pack.Reader) bool { return !r.Bool() }},
		{"\x08\xff\xff\xff\xff\xff\xff\xff\xff", func(r *pack.Reader) bool { return !r.Bool() }},
		{"\x01\x02ab", func(r *pack.Reader) bool { return r.Text(1) == "" }},
		{"\x01\x01a", func(r *pack.Reader) bool { return r.Text(0) == "" }},
		{"\x00", func(r *pack.Reader) bool { return r.Text(-1) == "" }},
		{"\x01\x01a", func(r *pack.Reader) bool { return r.Text(math.MinInt) == "" }},
		{"\x01\x03ab", func(r *pack.Reader) bool { return r.Text(9) == "" }},
		{"\x01\x01", func(r *pack.Reader) bool { return r.Text(9) == "" }},
		{"\x02\x01\x00" + strings.Repeat("x", 255), func(r *pack.Reader) bool { return r.Text(256) == "" }},
		{most + "a", func(r *pack.Reader) bool { return r.Text(math.MaxInt) == "" }},
		{"\x08\xff\xff\xff\xff\xff\xff\xff\xffabc", func(r *pack.Reader) bool { return r.Text(math.MaxInt) == "" }},
	} {
		r := pack.From(x.s)
		if !x.zero(r) {
			t.Errorf("reader %d: something is answered beside the failure", i)
		}
		failed(t, "refused", r)
		r = pack.From("\x01\x07" + x.s)
		if r.Num() != 7 || !x.zero(r) {
			t.Errorf("reader %d: behind a number, something else is answered", i)
		}
		failed(t, "refused behind a number", r)
	}
}

// P3.1: Left and Done, step by step; nothing was read of nothing, and nothing failed.
func TestLeft(t *testing.T) {
	r := pack.From("\x01\x02ab\x02\x01\x2c\x01\x01\x00")
	hold := func(n int) {
		t.Helper()
		if got, ok := r.Left(); got != n || !ok || r.Done() != (n == 0) {
			t.Fatalf("Left answers %d, %v and Done %v, want %d", got, ok, r.Done(), n)
		}
	}
	hold(10)
	if r.Text(2) != "ab" {
		t.Fatal("no text")
	}
	hold(6)
	if r.Num() != 300 {
		t.Fatal("no number")
	}
	hold(3)
	if !r.Bool() {
		t.Fatal("no truth")
	}
	hold(1)
	if r.Int() != 0 {
		t.Fatal("no 0")
	}
	hold(0)
	r.Num()
	failed(t, "behind the end", r)
	whole(t, pack.From(""))
}

// words calls f with all texts over an alphabet up to a length.
func words(letters string, most int, f func(string)) {
	level := []string{""}
	for range most + 1 {
		var next []string
		for _, w := range level {
			f(w)
			for i := range len(letters) {
				next = append(next, w+letters[i:i+1])
			}
		}
		level = next
	}
}

// inFront is the number whose bytes s begins with, if it has any: of all that are laid over these letters.
func inFront(laid map[string]uint64, s string) (uint64, int) {
	for n := 1; n <= len(s); n++ {
		if x, ok := laid[s[:n]]; ok {
			return x, n
		}
	}
	return 0, 0
}

// P3.1 and P3.2: a number is read just where the bytes of one were laid, all of short bytes over these letters.
func TestNumbersAlone(t *testing.T) {
	letters := "\x00\x01\x02\x03\x04\x05\x80\xff"
	laid := map[string]uint64{}
	words(letters, 4, func(w string) {
		x := uint64(0)
		for i := range len(w) {
			x = x<<8 | uint64(w[i])
		}
		laid[new(pack.Writer).Num(x).Bytes()] = x
	})
	words(letters, 5, func(w string) {
		x, n := inFront(laid, w)
		r := pack.From(w)
		got := r.Num()
		left, ok := r.Left()
		if n > 0 && (got != x || left != len(w)-n || !ok) {
			t.Fatalf("Num of % x answers %d, and %d, %v is left", w, got, left, ok)
		}
		if n == 0 && (got != 0 || left != 0 || ok) {
			t.Fatalf("Num of % x answers %d, and %d, %v is left; want a failure", w, got, left, ok)
		}
		readsLikeNum(t, w, x, n)
	})
}

// readsLikeNum holds the other calls to what the number in front of w says: x, of n bytes, or none if n is 0.
func readsLikeNum(t *testing.T, w string, x uint64, n int) {
	t.Helper()
	hold := func(name string, r *pack.Reader, same, took bool, taken int) {
		t.Helper()
		left, ok := r.Left()
		if !same || ok != took || took && left != len(w)-taken || !took && left != 0 {
			t.Fatalf("%s of % x: same %v, and %d, %v is left", name, w, same, left, ok)
		}
	}
	is := n > 0
	r := pack.From(w)
	hold("Bool", r, r.Bool() == (is && x == 1), is && x <= 1, n)
	r = pack.From(w)
	got := r.Int()
	hold("Int", r, is && signed(got) == x || !is && got == 0, is, n)
	for _, limit := range []int{-1, 0, 1, 2, 3, 255, 256, 0x01FF} {
		small := is && limit >= 0 && x <= uint64(limit)
		r = pack.From(w)
		up := r.Up(limit)
		hold("Up", r, small && uint64(up) == x || !small && up == 0, small, n)
		room := small && x <= uint64(len(w)-n)
		r = pack.From(w)
		s := r.Text(limit)
		hold("Text", r, room && s == w[n:n+int(x)] || !room && s == "", room, n+int(x))
	}
}

// An item is one thing to lay and to read.
type item struct {
	kind int
	num  uint64
	text string
}

// drawItem gives one that looks like chance, of each length alike.
func drawItem(r *rand.Rand) item {
	x := item{kind: r.IntN(5), num: r.Uint64() >> r.IntN(65)}
	switch x.kind {
	case 2:
		x.num &= 1
	case 3:
		x.num &= math.MaxInt
	case 4:
		x.num = 0
		b := make([]byte, r.IntN(1<<r.IntN(10)))
		for i := range b {
			b[i] = byte(r.Uint32() >> r.IntN(30))
		}
		x.text = string(b)
	}
	return x
}

// lay lays an item.
func (x item) lay(w *pack.Writer) {
	switch x.kind {
	case 0, 3:
		w.Num(x.num)
	case 1:
		w.Int(int64(x.num))
	case 2:
		w.Bool(x.num == 1)
	case 4:
		w.Text(x.text)
	}
}

// take takes an item of that kind.
func take(r *pack.Reader, kind, limit int) item {
	x := item{kind: kind}
	switch kind {
	case 0:
		x.num = r.Num()
	case 1:
		x.num = uint64(r.Int())
	case 2:
		if r.Bool() {
			x.num = 1
		}
	case 3:
		x.num = uint64(r.Up(limit))
	case 4:
		x.text = r.Text(limit)
	}
	return x
}

// P3.2: many items, one behind the other, are read as they were laid.
func TestThereAndBack(t *testing.T) {
	for seed := range 400 {
		d := draws(seed + 10)
		l := make([]item, d.IntN(60))
		w := new(pack.Writer)
		for i := range l {
			l[i] = drawItem(d)
			l[i].lay(w)
		}
		r := pack.From(w.Bytes())
		for i, x := range l {
			if got := take(r, x.kind, math.MaxInt); got != x {
				t.Fatalf("seed %d, item %d: %#v is read, %#v was laid", seed, i, got, x)
			}
		}
		whole(t, r)
	}
}

// again takes one item of a kind and holds that it stood there in its one form; it tells whether one was taken.
func again(t *testing.T, r *pack.Reader, s string, kind, limit int) bool {
	t.Helper()
	before, _ := r.Left()
	x := take(r, kind, limit)
	after, ok := r.Left()
	if !ok {
		if x != (item{kind: kind}) {
			t.Fatalf("% x: kind %d answers %#v beside the failure", s, kind, x)
		}
		failed(t, "any bytes", r)
		return false
	}
	w := new(pack.Writer)
	x.lay(w)
	if got := s[len(s)-before : len(s)-after]; w.Bytes() != got {
		t.Fatalf("% x was read, and is laid as % x", got, w.Bytes())
	}
	return true
}

// P3.2 and P0: what is read of any bytes, laid again, is the same bytes; and no call panics.
func TestOneForm(t *testing.T) {
	taken := 0
	for seed := range 60000 {
		d := draws(seed + 1000)
		b := make([]byte, d.IntN(40))
		for i := range b {
			b[i] = byte(d.Uint32() >> 24 >> d.IntN(9))
		}
		s := string(b)
		r := pack.From(s)
		for again(t, r, s, d.IntN(5), d.IntN(1000)-20) {
			taken++
		}
	}
	if taken < 10000 {
		t.Fatalf("only %d items were taken: the bytes are too wild", taken)
	}
}

// P3.2: bytes that were laid, with one changed or some cut off, are read in their one form, or not at all.
func TestNearBytes(t *testing.T) {
	s := new(pack.Writer).Num(0).Num(300).Text("ab").Int(-70000).Bool(true).Num(math.MaxUint64).Text("").Bytes()
	kinds := []int{0, 0, 4, 1, 2, 0, 4}
	hold := func(s string) {
		t.Helper()
		r := pack.From(s)
		for _, kind := range kinds {
			if !again(t, r, s, kind, 300) {
				return
			}
		}
	}
	for i := range len(s) {
		hold(s[:i])
		hold(s[i:])
		for c := range 256 {
			hold(s[:i] + string([]byte{byte(c)}) + s[i+1:])
		}
	}
}

// Rule 7: a nil writer and a nil reader answer as the chapter says.
func TestNil(t *testing.T) {
	var w *pack.Writer
	if w.Num(1) != nil || w.Int(-1) != nil || w.Bool(true) != nil || w.Bool(false) != nil || w.Text("a") != nil || w.Text("") != nil {
		t.Error("a nil writer answers a writer")
	}
	if w.Num(5).Int(6).Bool(true).Text("a").Bytes() != "" || w.Bytes() != "" {
		t.Error("a nil writer answers bytes")
	}
	failed(t, "nil", nil)
}

// Rule 8: writers don't touch each other, nor do readers of one text, nor does what was laid later touch earlier bytes.
func TestApart(t *testing.T) {
	a, b := new(pack.Writer).Num(1), new(pack.Writer).Text("xy")
	early := a.Bytes()
	a.Text("more").Text(b.Bytes())
	b.Num(9).Text(b.Bytes())
	if early != "\x01\x01" || a.Bytes() != "\x01\x01\x01\x04more\x01\x04\x01\x02xy" || b.Bytes() != "\x01\x02xy\x01\x09\x01\x06\x01\x02xy\x01\x09" {
		t.Errorf("writers answer % x, % x, % x", early, a.Bytes(), b.Bytes())
	}
	s := "\x01\x07\x02\x01\x2c"
	p, q := pack.From(s), pack.From(s)
	if p.Num() != 7 || p.Bool() || q.Num() != 7 || q.Num() != 300 || !q.Done() || p.Done() {
		t.Error("readers of one text touch each other")
	}
}

// P0: many items and a long text, at which a way of quadratic length would not end in time.
func TestLong(t *testing.T) {
	n := 1 << 20
	w := new(pack.Writer)
	for i := range n {
		w.Num(uint64(i)).Text("ab")
	}
	long := strings.Repeat("x", 8<<20)
	r := pack.From(w.Text(long).Bytes())
	for i := range n {
		if r.Num() != uint64(i) || r.Text(2) != "ab" {
			t.Fatalf("item %d isn't read as it was laid", i)
		}
	}
	if r.Text(len(long)) != long {
		t.Error("the long text isn't read as it was laid")
	}
	whole(t, r)
}
