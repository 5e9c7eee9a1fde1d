package codec_test

import (
	"bytes"
	"hash/crc32"
	"math"
	"math/rand/v2"
	"strings"
	"testing"

	"icehouse/api"
	"icehouse/codec"
)

const (
	numberEnd = 1 << 56
	signedEnd = 1 << 55
)

// edges: numbers around each length's bounds, and far outside.
func edges() []int {
	l := []int{0, 1, 2, 5, 300, math.MaxInt, math.MaxInt - 1, math.MinInt, math.MinInt + 1}
	for bits := range 63 {
		for by := -2; by <= 2; by++ {
			l = append(l, 1<<bits+by, -(1<<bits)+by)
		}
	}
	return l
}

// roomy: b with room behind it, and that room, which no call may change.
func roomy(b []byte) (in, room []byte) {
	all := append(append(make([]byte, 0, len(b)+64), b...), bytes.Repeat([]byte{0xee}, 64)...)
	return all[:len(b)], all[len(b):]
}

func random(r *rand.Rand, n int) []byte {
	b := make([]byte, n)
	for i := range b {
		b[i] = byte(r.Uint32())
	}
	return b
}

// written: n as a number is written, told by division and not by bits.
func written(n int) []byte {
	b := []byte{}
	for n > 127 {
		b = append(b, byte(n%128)+128)
		n /= 128
	}
	return append(b, byte(n))
}

func want(t *testing.T, what string, b []byte, e api.Errno, wantB []byte, wantE api.Errno) {
	t.Helper()
	if e != wantE || !bytes.Equal(b, wantB) || e != api.OK && len(b) != 0 {
		t.Errorf("%s: %v %d, want %v %d", what, b, e, wantB, wantE)
	}
}

// P102

func TestP102SumIsCRC32C(t *testing.T) {
	if s := codec.Sum([]byte("123456789")); s != 0xe3069283 {
		t.Errorf("%#x", s)
	}
	if s := codec.Sum(nil); s != 0 {
		t.Errorf("%#x of nothing", s)
	}
	r := rand.New(rand.NewPCG(1, 1))
	table := crc32.MakeTable(crc32.Castagnoli)
	for c := range 256 {
		b := []byte{byte(c)}
		if codec.Sum(b) != crc32.Checksum(b, table) {
			t.Error(b)
		}
	}
	for n := range 300 {
		if b := random(r, n); codec.Sum(b) != crc32.Checksum(b, table) {
			t.Error(b)
		}
	}
}

func TestP102Number(t *testing.T) {
	b, e := codec.Number(300)
	want(t, "300", b, e, []byte{172, 2}, api.OK)
	b, e = codec.Number(0)
	want(t, "0", b, e, []byte{0}, api.OK)
	for _, n := range edges() {
		b, e := codec.Number(n)
		if n < 0 || n >= numberEnd {
			want(t, "Number", b, e, nil, api.ErrRange)
			continue
		}
		want(t, "Number", b, e, written(n), api.OK)
		if len(b) > 8 {
			t.Error(n, b)
		}
	}
}

func TestP102Signed(t *testing.T) {
	b, e := codec.Signed(-1)
	want(t, "-1", b, e, []byte{1}, api.OK)
	for _, n := range edges() {
		b, e := codec.Signed(n)
		switch {
		case n < -signedEnd || n >= signedEnd:
			want(t, "Signed", b, e, nil, api.ErrRange)
		case n < 0:
			want(t, "Signed", b, e, written(-2*n-1), api.OK)
		default:
			want(t, "Signed", b, e, written(2*n), api.OK)
		}
	}
}

func TestP102Text(t *testing.T) {
	b, e := codec.Text("ab")
	want(t, "ab", b, e, []byte{2, 97, 98}, api.OK)
	b, e = codec.Text("")
	want(t, "empty", b, e, []byte{0}, api.OK)
	b, e = codec.Text("\xff\x00")
	want(t, "any bytes", b, e, []byte{2, 255, 0}, api.OK)
	long := strings.Repeat("x", 65536)
	b, e = codec.Text(long)
	want(t, "longest", b, e, append(written(65536), long...), api.OK)
	b, e = codec.Text(long + "x")
	want(t, "longer", b, e, nil, api.ErrSize)
}

// framed: a frame, made with the library's sum.
func framed(kind byte, in []byte) []byte {
	head := append([]byte{kind}, written(len(in))...)
	s := crc32.Checksum(append(bytes.Clone(head), in...), crc32.MakeTable(crc32.Castagnoli))
	b := append([]byte{0xa5}, head...)
	b = append(b, byte(s>>24), byte(s>>16), byte(s>>8), byte(s))
	return append(b, in...)
}

func TestP102Frame(t *testing.T) {
	r := rand.New(rand.NewPCG(1, 2))
	for _, kind := range []int{0, 1, 7, 254, 255} {
		for _, n := range []int{0, 1, 2, 127, 128, 129, 16383, 16384, api.MaxBytes - 1, api.MaxBytes} {
			in := random(r, n)
			b, e := codec.Frame(kind, in)
			if e != api.OK || !bytes.Equal(b, framed(byte(kind), in)) {
				t.Error(kind, n, e)
			}
		}
	}
	long := make([]byte, api.MaxBytes+1)
	b, e := codec.Frame(0, long)
	want(t, "too long", b, e, nil, api.ErrSize)
	for _, kind := range []int{-1, 256, math.MaxInt, math.MinInt} {
		b, e := codec.Frame(kind, []byte("x"))
		want(t, "kind", b, e, nil, api.ErrArg)
		b, e = codec.Frame(kind, long)
		want(t, "kind, and too long", b, e, nil, api.ErrArg)
	}
}

// P103

func wantUnframe(t *testing.T, b []byte, wantE api.Errno) {
	t.Helper()
	kind, in, n, e := codec.Unframe(b)
	if e != wantE {
		t.Errorf("%d of % x, want %d", e, b[:min(len(b), 20)], wantE)
	}
	if e != api.OK && (kind != 0 || len(in) != 0 || n != 0) {
		t.Errorf("answers beside %d: %d %v %d", e, kind, in, n)
	}
}

func TestP103Forms(t *testing.T) {
	for _, c := range []struct {
		b string
		e api.Errno
	}{
		{"", api.ErrEnd},
		{"x", api.ErrForm},
		{"\x00", api.ErrForm},
		{"\x01\xa5", api.ErrForm},
		{"\xa5", api.ErrEnd},
		{"\xa5\x07", api.ErrEnd},
		{"\xa5\x07\x80", api.ErrEnd},
		// A last byte 0 behind others shows itself at once.
		{"\xa5\x07\x80\x00", api.ErrForm},
		{"\xa5\x07\xff\x00", api.ErrForm},
		{"\xa5\x07\x80\x80\x80\x80\x80\x80\x80\x00", api.ErrForm},
		// 0 alone is a length.
		{"\xa5\x07\x00", api.ErrEnd},
		// 2^20, and one more, and more than that.
		{"\xa5\x07\x80\x80\x40", api.ErrEnd},
		{"\xa5\x07\x81\x80\x40", api.ErrForm},
		{"\xa5\x07\xff\xff\xff\xff\xff\xff\xff\x7f", api.ErrForm},
		// Above 2^20 whatever follows, but not all of its bytes are there.
		{"\xa5\x07\xff\xff\xff\xff", api.ErrEnd},
		{"\xa5\x07\xff\xff\xff\xff\xff\xff\xff", api.ErrEnd},
		// The eighth byte shows that there are more than eight.
		{"\xa5\x07\xff\xff\xff\xff\xff\xff\xff\xff", api.ErrForm},
		{"\xa5\x07\x80\x80\x80\x80\x80\x80\x80\x80\x01", api.ErrForm},
		// A sum, and all that is in it, must be there ahead of the sum's test.
		{"\xa5\x07\x00\x00\x00\x00", api.ErrEnd},
		{"\xa5\x07\x00\x00\x00\x00\x00", api.ErrSum},
		{"\xa5\x07\x01\x00\x00\x00\x00", api.ErrEnd},
		{"\xa5\x07\x01\x00\x00\x00\x00x", api.ErrSum},
	} {
		wantUnframe(t, []byte(c.b), c.e)
	}
}

func TestP103Ends(t *testing.T) {
	for _, in := range []string{"", "xyz", strings.Repeat("x", 300)} {
		b := framed(9, []byte(in))
		for n := range b {
			wantUnframe(t, b[:n], api.ErrEnd)
		}
		wantUnframe(t, b, api.OK)
	}
}

func TestP103Largest(t *testing.T) {
	in := make([]byte, api.MaxBytes+1)
	wantUnframe(t, framed(1, in), api.ErrForm)
	b := framed(1, in[1:])
	wantUnframe(t, b, api.OK)
	wantUnframe(t, b[:len(b)-1], api.ErrEnd)
}

// TestP103Sum: each bit of the sum counts, and the sum is of kind, length and what is in it.
func TestP103Sum(t *testing.T) {
	b := framed(3, []byte("abc"))
	for bit := range 32 {
		c := bytes.Clone(b)
		c[3+bit/8] ^= 1 << (bit % 8)
		wantUnframe(t, c, api.ErrSum)
	}
	for _, i := range []int{1, 7, 8, 9} {
		c := bytes.Clone(b)
		c[i]++
		wantUnframe(t, c, api.ErrSum)
	}
}

// TestP103Goes: what is told of some bytes is told of them and any more, but that they end.
func TestP103Goes(t *testing.T) {
	r := rand.New(rand.NewPCG(1, 3))
	signs := []byte{0, 1, 2, 64, 127, 128, 129, 255}
	for range 20000 {
		b := []byte{0xa5, 4}
		for range r.IntN(14) {
			b = append(b, signs[r.IntN(len(signs))])
		}
		shorter := b[:r.IntN(len(b)+1)]
		_, _, _, e := codec.Unframe(shorter)
		_, _, _, f := codec.Unframe(b)
		if e != api.ErrEnd && e != f {
			t.Fatalf("% x: %d; % x: %d", shorter, e, b, f)
		}
	}
}

// P104

func TestP104Number(t *testing.T) {
	for _, c := range []struct {
		b    string
		n    int
		left int
		e    api.Errno
	}{
		{"", 0, 0, api.ErrEnd},
		{"\x00", 0, 0, api.OK},
		{"\x00\x00", 0, 1, api.OK},
		{"\x7f", 127, 0, api.OK},
		{"\x80", 0, 1, api.ErrEnd},
		{"\x80\x01", 128, 0, api.OK},
		{"\x80\x00", 0, 2, api.ErrForm},
		{"\x80\x80\x00\x05", 0, 4, api.ErrForm},
		{"\xac\x02\x09", 300, 1, api.OK},
		{"\xff\xff\xff\xff\xff\xff\xff\x7f", numberEnd - 1, 0, api.OK},
		{"\xff\xff\xff\xff\xff\xff\xff", 0, 7, api.ErrEnd},
		{"\xff\xff\xff\xff\xff\xff\xff\x00", 0, 8, api.ErrForm},
		{"\x80\x80\x80\x80\x80\x80\x80\x80\x01", 0, 9, api.ErrForm},
	} {
		d := codec.New([]byte(c.b))
		if n := d.Number(); n != c.n || d.Left() != c.left || d.Err() != c.e {
			t.Errorf("% x: %d %d %d", c.b, n, d.Left(), d.Err())
		}
		d = codec.New([]byte(c.b))
		s := (c.n + 1) / 2
		if c.n%2 == 1 {
			s = -s
		}
		if n := d.Signed(); n != s || d.Left() != c.left || d.Err() != c.e {
			t.Errorf("signed % x: %d %d %d", c.b, n, d.Left(), d.Err())
		}
	}
}

func TestP104Text(t *testing.T) {
	long := strings.Repeat("y", 65537)
	for _, c := range []struct {
		b, s string
		left int
		e    api.Errno
	}{
		{"", "", 0, api.ErrEnd},
		{"\x00", "", 0, api.OK},
		{"\x02ab", "ab", 0, api.OK},
		{"\x02abc", "ab", 1, api.OK},
		{"\x02\xff\x00", "\xff\x00", 0, api.OK},
		{"\x02a", "", 2, api.ErrEnd},
		{"\x02", "", 1, api.ErrEnd},
		{"\x80", "", 1, api.ErrEnd},
		{"\x80\x00", "", 2, api.ErrForm},
		{"\x80\x80\x04" + long[:65536], long[:65536], 0, api.OK},
		{"\x80\x80\x04" + long[:65535], "", 65538, api.ErrEnd},
		{"\x81\x80\x04" + long, "", 65540, api.ErrForm},
		// Too long is told ahead of that the text is not there.
		{"\x81\x80\x04", "", 3, api.ErrForm},
		{"\xff\xff\xff\xff\xff\xff\xff\x7f", "", 8, api.ErrForm},
	} {
		d := codec.New([]byte(c.b))
		if s := d.Text(); s != c.s || d.Left() != c.left || d.Err() != c.e {
			t.Errorf("% x: %q %d %d", c.b[:min(len(c.b), 8)], s, d.Left(), d.Err())
		}
	}
}

func TestP104BehindAnError(t *testing.T) {
	d := codec.New([]byte{5, 3, 'a', 7, 7})
	if d.Err() != api.OK || d.Left() != 5 || d.Done() != api.ErrForm {
		t.Error(d.Err(), d.Left(), d.Done())
	}
	if d.Number() != 5 || d.Text() != "a\a\a" || d.Err() != api.OK || d.Left() != 0 || d.Done() != api.OK {
		t.Error(d.Err(), d.Left(), d.Done())
	}
	// The length 3 stands ahead of two bytes alone: the text fails, and stays failed.
	d = codec.New([]byte{5, 3, 1, 7})
	if d.Number() != 5 || d.Text() != "" || d.Err() != api.ErrEnd || d.Left() != 3 {
		t.Error(d.Err(), d.Left())
	}
	for range 3 {
		if d.Number() != 0 || d.Signed() != 0 || d.Text() != "" {
			t.Error("it read on")
		}
		if d.Err() != api.ErrEnd || d.Done() != api.ErrEnd || d.Left() != 3 {
			t.Error(d.Err(), d.Done(), d.Left())
		}
	}
	// The first error stays, though another one would follow.
	d = codec.New([]byte{0x80, 0})
	d.Text()
	d.Number()
	if d.Err() != api.ErrForm || d.Done() != api.ErrForm {
		t.Error(d.Err(), d.Done())
	}
}

func TestP104Done(t *testing.T) {
	d := codec.New([]byte{1, 2})
	if d.Number() != 1 || d.Done() != api.ErrForm || d.Err() != api.OK {
		t.Error(d.Done(), d.Err())
	}
	// Done is a look: it goes on behind it.
	if d.Number() != 2 || d.Done() != api.OK || d.Left() != 0 {
		t.Error(d.Done(), d.Left())
	}
	for _, b := range [][]byte{nil, {}} {
		d := codec.New(b)
		if d.Done() != api.OK || d.Left() != 0 || d.Number() != 0 || d.Done() != api.ErrEnd {
			t.Error(d.Done(), d.Left())
		}
	}
}

// P101

func TestP101NobodyMade(t *testing.T) {
	for _, d := range []*codec.Decoder{nil, {}, new(codec.Decoder)} {
		for range 2 {
			if d.Number() != 0 || d.Signed() != 0 || d.Text() != "" || d.Left() != 0 {
				t.Error("it answers something")
			}
			if d.Err() != api.ErrArg || d.Done() != api.ErrArg {
				t.Error(d.Err(), d.Done())
			}
		}
	}
}

func TestP101NothingIsChangedOrKept(t *testing.T) {
	in, room := roomy([]byte("abc"))
	frame, _ := codec.Frame(1, in)
	codec.Sum(in)
	b, rest := roomy(frame)
	_, out, n, e := codec.Unframe(b)
	if e != api.OK || n != len(frame) {
		t.Fatal(n, e)
	}
	_ = append(frame, "zzz"...)
	_ = append(out, "zzz"...)
	out[0]++
	if string(in) != "abc" || !bytes.Equal(b, framed(1, []byte("abc"))) {
		t.Error("changed", in, b)
	}
	for i := range room {
		if room[i] != 0xee || rest[i] != 0xee {
			t.Fatal("the room behind is changed", i)
		}
	}
	b[len(b)-1] = 'z'
	if string(out) != "bbc" {
		t.Error("shared", out)
	}
	frame[len(frame)-1] = 'z'
	if string(in) != "abc" {
		t.Error("shared", in)
	}
}

func TestP101DecoderKeepsItsOwn(t *testing.T) {
	b, room := roomy([]byte{7, 2, 'a', 'b', 1})
	d := codec.New(b)
	if d.Number() != 7 {
		t.Error("7")
	}
	clear(b)
	clear(room)
	if s := d.Text(); s != "ab" || d.Signed() != -1 || d.Done() != api.OK {
		t.Error(s, d.Done())
	}
}

func TestP101AnswersAreNew(t *testing.T) {
	for _, answer := range []func() []byte{
		func() []byte { b, _ := codec.Number(300); return b },
		func() []byte { b, _ := codec.Signed(-300); return b },
		func() []byte { b, _ := codec.Text("text"); return b },
		func() []byte { b, _ := codec.Frame(3, nil); return b },
		func() []byte { _, in, _, _ := codec.Unframe(framed(3, []byte("in"))); return in },
	} {
		first, second := answer(), answer()
		clear(first[:cap(first)])
		if third := answer(); !bytes.Equal(second, third) || bytes.Equal(first, third) {
			t.Error(first, second, third)
		}
	}
}

// P105

func TestP105NumbersThereAndBack(t *testing.T) {
	for _, n := range edges() {
		if b, e := codec.Number(n); e == api.OK {
			if d := codec.New(b); d.Number() != n || d.Done() != api.OK {
				t.Error(n, b, d.Done())
			}
		}
		if b, e := codec.Signed(n); e == api.OK {
			if d := codec.New(b); d.Signed() != n || d.Done() != api.OK {
				t.Error(n, b, d.Done())
			}
		}
	}
}

func TestP105OneBehindTheOther(t *testing.T) {
	r := rand.New(rand.NewPCG(1, 5))
	for range 300 {
		var b []byte
		var checks []func(d *codec.Decoder) bool
		for range r.IntN(12) {
			n := int(r.Uint64()>>8) >> r.IntN(56)
			s := string(random(r, r.IntN(200)))
			var p []byte
			var e api.Errno
			switch r.IntN(3) {
			case 0:
				p, e = codec.Number(n)
				checks = append(checks, func(d *codec.Decoder) bool { return d.Number() == n })
			case 1:
				p, e = codec.Signed(n - signedEnd)
				checks = append(checks, func(d *codec.Decoder) bool { return d.Signed() == n-signedEnd })
			default:
				p, e = codec.Text(s)
				checks = append(checks, func(d *codec.Decoder) bool { return d.Text() == s })
			}
			if e != api.OK {
				t.Fatal(n, s, e)
			}
			b = append(b, p...)
		}
		d := codec.New(b)
		for _, right := range checks {
			if !right(d) || d.Err() != api.OK {
				t.Fatal(b, d.Err())
			}
		}
		if d.Done() != api.OK || d.Left() != 0 {
			t.Fatal(b, d.Done(), d.Left())
		}
	}
}

// TestP105OneForm: bytes that are read as something are what is written of it.
func TestP105OneForm(t *testing.T) {
	r := rand.New(rand.NewPCG(1, 6))
	signs := []byte{0, 1, 2, 127, 128, 129, 255}
	for range 20000 {
		b := []byte{}
		for range r.IntN(11) {
			b = append(b, signs[r.IntN(len(signs))])
		}
		d := codec.New(b)
		if n := d.Number(); d.Err() == api.OK {
			if back, e := codec.Number(n); e != api.OK || !bytes.Equal(back, b[:len(b)-d.Left()]) {
				t.Fatal(b, n, back, e)
			}
		}
		d = codec.New(b)
		if n := d.Signed(); d.Err() == api.OK {
			if back, e := codec.Signed(n); e != api.OK || !bytes.Equal(back, b[:len(b)-d.Left()]) {
				t.Fatal(b, n, back, e)
			}
		}
		d = codec.New(b)
		if s := d.Text(); d.Err() == api.OK {
			if back, e := codec.Text(s); e != api.OK || !bytes.Equal(back, b[:len(b)-d.Left()]) {
				t.Fatal(b, s, back, e)
			}
		}
	}
}

// P106

func TestP106First(t *testing.T) {
	r := rand.New(rand.NewPCG(1, 7))
	for i := range 400 {
		in := random(r, i)
		frame, e := codec.Frame(i%256, in)
		if e != api.OK {
			t.Fatal(i, e)
		}
		for _, behind := range [][]byte{nil, {0}, frame, random(r, 40)} {
			kind, got, n, e := codec.Unframe(append(bytes.Clone(frame), behind...))
			if kind != i%256 || !bytes.Equal(got, in) || n != len(frame) || e != api.OK {
				t.Fatal(i, kind, n, e)
			}
		}
	}
	in := random(r, api.MaxBytes)
	frame, _ := codec.Frame(255, in)
	if kind, got, n, e := codec.Unframe(append(frame, 1)); kind != 255 || !bytes.Equal(got, in) || n != len(frame) || e != api.OK {
		t.Error(kind, n, e)
	}
}

// P107

func TestP107Rot(t *testing.T) {
	r := rand.New(rand.NewPCG(1, 8))
	for _, n := range []int{0, 1, 5, 126, 127, 128, 129, 130, 300} {
		frame, e := codec.Frame(n%256, random(r, n))
		if e != api.OK {
			t.Fatal(n, e)
		}
		for i := range frame {
			for by := 1; by < 256; by++ {
				frame[i] += byte(by)
				if _, _, size, e := codec.Unframe(frame); e == api.OK && size == len(frame) {
					t.Errorf("%d bytes: place %d changed by %d is a frame", n, i, by)
				}
				frame[i] -= byte(by)
			}
		}
	}
}
