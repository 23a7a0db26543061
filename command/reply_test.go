package command_test

import (
	"math"
	"strings"
	"testing"

	"tontine/api"
	"tontine/command"
)

// mostError is the greatest error's number of a reply that is read.
const mostError = 52

// replyFields: a reply's bytes by the chapter's words, a number each.
func replyFields(y api.Reply) []string {
	if y.Err < 0 {
		y.Err = 0
	}
	return []string{numberBytes(uint64(y.Err)), numberBytes(y.Num), numberBytes(y.Extra)}
}

func replyBytes(y api.Reply) string { return strings.Join(replyFields(y), "") }

// said: the reply whose bytes s is, by the chapter's words; false, if there is none.
func said(s string) (api.Reply, bool) {
	r := &loose{left: s}
	y := api.Reply{Err: api.Errno(r.num()), Num: r.num(), Extra: r.num()}
	if y.Err < 0 || y.Err > mostError || replyBytes(y) != s {
		return api.Reply{}, false
	}
	return y, true
}

// holdReply holds Answer to the words at a reply, and Said at its bytes, and tells whether it is said as it was.
func holdReply(t *testing.T, y api.Reply) bool {
	t.Helper()
	s := command.Answer(y)
	if want := replyBytes(y); s != want {
		t.Fatalf("Answer answers % x of %+v; want % x", s, y, want)
	}
	if holdSaid(t, s) != (y.Err <= mostError) {
		t.Fatalf("Said is wrong of %+v", y)
	}
	back, _ := command.Said(s)
	if y.Err >= 0 && y.Err <= mostError && back != y {
		t.Fatalf("%+v comes back as %+v", y, back)
	}
	return back == y
}

// holdSaid holds Said to the words at bytes, and tells whether they are a reply's.
func holdSaid(t *testing.T, s string) bool {
	t.Helper()
	want, ok := said(s)
	y, e := command.Said(s)
	if ok != (e == api.OK) || !ok && e != api.ErrForm || y != want {
		t.Fatalf("Said answers %+v, %d of % x; want %+v, %v", y, int(e), s, want, ok)
	}
	if ok && command.Answer(y) != s {
		t.Fatalf("% x comes back as % x", s, command.Answer(y))
	}
	return ok
}

// P16.1: replies written out by hand.
func TestReplyWrittenOut(t *testing.T) {
	for _, x := range []struct {
		y    api.Reply
		want string
	}{
		{api.Reply{}, "\x00\x00\x00"},
		{api.Reply{Err: api.ErrStale}, "\x01\x29\x00\x00"},
		{api.Reply{Num: 300}, "\x00\x02\x01\x2c\x00"},
		{api.Reply{Extra: 1}, "\x00\x00\x01\x01"},
		{api.Reply{Err: 52, Num: math.MaxUint64, Extra: 1 << 63}, "\x01\x34" + "\x08\xff\xff\xff\xff\xff\xff\xff\xff" + "\x08\x80\x00\x00\x00\x00\x00\x00\x00"},
	} {
		if s := command.Answer(x.y); s != x.want {
			t.Errorf("Answer answers % x of %+v; want % x", s, x.y, x.want)
		}
		if y, e := command.Said(x.want); e != api.OK || y != x.y {
			t.Errorf("Said answers %+v, %d of % x; want %+v", y, int(e), x.want, x.y)
		}
	}
	for _, e := range []api.Errno{-1, -2, -52, math.MinInt32, math.MinInt64, math.MinInt64 + 1} { // laid as none
		if s := command.Answer(api.Reply{Err: e, Num: 2, Extra: 3}); s != "\x00\x01\x02\x01\x03" {
			t.Errorf("Answer answers % x of Err %d", s, int(e))
		}
	}
	for s, e := range map[string]api.Errno{"\x01\x35\x00\x00": 53, "\x02\x01\x00\x00\x00": 256, "\x08\x7f\xff\xff\xff\xff\xff\xff\xff\x00\x00": math.MaxInt64} { // laid as it is, but said by nobody
		if got := command.Answer(api.Reply{Err: e}); got != s {
			t.Errorf("Answer answers % x of Err %d", got, int(e))
		}
		if y, f := command.Said(s); f != api.ErrForm || y != (api.Reply{}) {
			t.Errorf("Said answers %+v, %d of % x", y, int(f), s)
		}
	}
}

// P16.1, P16.2, P0: any reply.
func TestAnyReply(t *testing.T) {
	for _, i := range ints() {
		for _, n := range []uint64{0, 1, 300, math.MaxUint64} {
			want := i >= 0 && i <= 52
			for _, y := range []api.Reply{{Err: api.Errno(i)}, {Err: api.Errno(i), Num: n}, {Err: api.Errno(i), Extra: n}, {Err: api.Errno(i), Num: n, Extra: n}} {
				if holdReply(t, y) != want {
					t.Fatalf("%+v comes back: %v", y, !want)
				}
			}
		}
	}
	for _, a := range nums() {
		for _, b := range nums() {
			holdReply(t, api.Reply{Err: api.Errno(a % 60), Num: a, Extra: b})
		}
	}
	r := draws(3)
	for range 20000 {
		holdReply(t, api.Reply{Err: api.Errno(r.IntN(120) - 60), Num: anyNum(r), Extra: anyNum(r)})
	}
}

// P16.1: bytes that no reply has.
func TestSaidWrong(t *testing.T) {
	for _, s := range []string{"", "\x00", "\x00\x00", "\x00\x00\x00\x00", "\x01\x29", "\x01\x29\x00", "\x01\x00\x00\x00", "\x02\x00\x29\x00\x00", "\x01\x35\x00\x00", "\x08\xff\xff\xff\xff\xff\xff\xff\xff\x00\x00", "\x09\x00\x00", "\x00\x01\x00\x00", "\x00\x00\x01", "\x00\x00\x02\x00\x01", strings.Repeat("\xff", 27), strings.Repeat("\x00", 1<<16)} {
		if y, e := command.Said(s); e != api.ErrForm || y != (api.Reply{}) {
			t.Errorf("Said answers %+v, %d of %s", y, int(e), brief(s))
		}
		holdSaid(t, s)
	}
	for i := range uint64(300) {
		if y, e := command.Said(numberBytes(i) + "\x01\x07\x01\x08"); (e == api.OK) != (i <= 52) || e == api.OK && y != (api.Reply{Err: api.Errno(i), Num: 7, Extra: 8}) {
			t.Errorf("Said answers %+v, %d of Err %d", y, int(e), i)
		}
	}
}

// P16.1, P16.2: each field in other forms, and each byte changed, gone, or doubled.
func TestReplyBytesChanged(t *testing.T) {
	for _, y := range []api.Reply{{}, {Err: 41, Num: 300, Extra: 2}, {Num: math.MaxUint64}, {Err: 52, Extra: 1 << 32}} {
		s := replyBytes(y)
		for i, field := range replyFields(y) {
			changed := replyFields(y)
			if changed[i] = one(int(field[0])+1) + "\x00" + field[1:]; holdSaid(t, strings.Join(changed, "")) {
				t.Errorf("field %d of %+v has a second form", i, y)
			}
		}
		for i := range s {
			if holdSaid(t, s[:i]) {
				t.Fatalf("the first %d bytes of % x are said", i, s)
			}
			holdSaid(t, s[i:])
			holdSaid(t, s[:i]+s[i+1:])
			holdSaid(t, s[:i]+s[i:i+1]+s[i:])
			for b := range 256 {
				holdSaid(t, s[:i]+one(b)+s[i+1:])
			}
		}
		for b := range 256 {
			if holdSaid(t, s+one(b)) {
				t.Fatalf("a byte behind % x is said", s)
			}
		}
	}
}

// P16.1, P16.2, P0: all short bytes over some letters, at the edges of what may stand there.
func TestSaidShortBytes(t *testing.T) {
	letters, heard := "\x00\x01\x02\x08\x34\x35\xff", map[api.Reply]string{}
	level := []string{""}
	for range 6 {
		var next []string
		for _, s := range level {
			for i := range len(letters) {
				next = append(next, s+letters[i:i+1])
			}
		}
		for _, s := range next {
			if !holdSaid(t, s) {
				continue
			}
			y, _ := command.Said(s)
			if was, there := heard[y]; there {
				t.Fatalf("% x and % x say the same reply", s, was)
			}
			heard[y] = s
		}
		level = next
	}
	if len(heard) < 100 {
		t.Errorf("only %d of these are replies' bytes", len(heard))
	}
}
