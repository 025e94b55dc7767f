package num

import (
	"math"
	"slices"
	"strconv"
	"strings"
	"testing"

	"cornucopia/api"
)

// edges are the numbers at which a width, a group or a sign ends.
func edges() []uint64 {
	l := []uint64{0, 1, 2, 3, 258, 300, math.MaxUint64, math.MaxUint64 - 1}
	for i := 1; i < 64; i++ {
		p := uint64(1) << i
		l = append(l, p-1, p, p+1, p|p>>3)
	}
	return l
}

func TestP101Fix(t *testing.T) {
	for _, c := range []struct {
		v    uint64
		n    int
		want string
		e    api.Errno
	}{
		{258, 2, "\x01\x02", api.OK},
		{0, 1, "\x00", api.OK},
		{0, 8, "\x00\x00\x00\x00\x00\x00\x00\x00", api.OK},
		{255, 1, "\xff", api.OK},
		{256, 1, "", api.ErrArg},
		{256, 3, "\x00\x01\x00", api.OK},
		{1<<56 - 1, 7, "\xff\xff\xff\xff\xff\xff\xff", api.OK},
		{1 << 56, 7, "", api.ErrArg},
		{1 << 56, 8, "\x01\x00\x00\x00\x00\x00\x00\x00", api.OK},
		{0x0102030405060708, 8, "\x01\x02\x03\x04\x05\x06\x07\x08", api.OK},
		{math.MaxUint64, 8, "\xff\xff\xff\xff\xff\xff\xff\xff", api.OK},
		{math.MaxUint64, 1, "", api.ErrArg},
		{0, 0, "", api.ErrArg},
		{0, 9, "", api.ErrArg},
		{0, -1, "", api.ErrArg},
		{0, math.MaxInt, "", api.ErrArg},
		{0, math.MinInt, "", api.ErrArg},
	} {
		if got, e := Fix(c.v, c.n); got != c.want || e != c.e {
			t.Errorf("Fix(%d, %d): %q, %d, not %q, %d", c.v, c.n, got, e, c.want, c.e)
		}
	}
}

func TestP101Unfix(t *testing.T) {
	for _, c := range []struct {
		b     string
		at, n int
		want  uint64
		e     api.Errno
	}{
		{"\x01\x02", 0, 2, 258, api.OK},
		{"x\x01\x02y", 1, 2, 258, api.OK},
		{"xyz\xff", 3, 1, 255, api.OK},
		{"\x01\x02\x03\x04\x05\x06\x07\x08", 0, 8, 0x0102030405060708, api.OK},
		{"\xff\xff\xff\xff\xff\xff\xff\xff", 0, 8, math.MaxUint64, api.OK},
		{"ab", 1, 2, 0, api.ErrShort},
		{"ab", 2, 1, 0, api.ErrShort},
		{"ab", 3, 1, 0, api.ErrShort},
		{"", 0, 1, 0, api.ErrShort},
		{"1234567", 0, 8, 0, api.ErrShort},
		{"ab", math.MaxInt, 8, 0, api.ErrShort},
		{"ab", 0, 0, 0, api.ErrArg},
		{"ab", 0, -1, 0, api.ErrArg},
		{"123456789", 0, 9, 0, api.ErrArg},
		{"ab", -1, 1, 0, api.ErrArg},
		{"ab", math.MinInt, 1, 0, api.ErrArg},
		{"", 9, 9, 0, api.ErrArg},
		{"", -1, 1, 0, api.ErrArg},
	} {
		if got, e := Unfix(c.b, c.at, c.n); got != c.want || e != c.e {
			t.Errorf("Unfix(%q, %d, %d): %d, %d, not %d, %d", c.b, c.at, c.n, got, e, c.want, c.e)
		}
	}
}

func TestP102Var(t *testing.T) {
	for _, c := range []struct {
		l    []uint64
		want string
	}{
		{nil, ""},
		{[]uint64{0}, "\x00"},
		{[]uint64{127}, "\x7f"},
		{[]uint64{128}, "\x80\x01"},
		{[]uint64{0, 300}, "\x00\xac\x02"},
		{[]uint64{1<<14 - 1, 1 << 14}, "\xff\x7f\x80\x80\x01"},
		{[]uint64{1<<63 - 1}, "\xff\xff\xff\xff\xff\xff\xff\xff\x7f"},
		{[]uint64{1 << 63}, "\x80\x80\x80\x80\x80\x80\x80\x80\x80\x01"},
		{[]uint64{math.MaxUint64}, "\xff\xff\xff\xff\xff\xff\xff\xff\xff\x01"},
	} {
		given := slices.Clone(c.l)
		if got := Var(c.l...); got != c.want || !slices.Equal(c.l, given) {
			t.Errorf("Var(%d): %q, not %q; the numbers are then %d", given, got, c.want, c.l)
		}
	}
}

func TestP102Zig(t *testing.T) {
	for _, c := range []struct {
		v int
		u uint64
	}{
		{0, 0}, {-1, 1}, {1, 2}, {-2, 3}, {2, 4}, {-64, 127}, {64, 128},
		{math.MaxInt, math.MaxUint64 - 1}, {math.MinInt, math.MaxUint64},
		{math.MinInt + 1, math.MaxUint64 - 2}, {1 << 62, 1 << 63}, {-1 << 62, 1<<63 - 1},
	} {
		if u, v := Zig(c.v), Zag(c.u); u != c.u || v != c.v {
			t.Errorf("Zig(%d): %d, not %d; Zag(%d): %d, not %d", c.v, u, c.u, c.u, v, c.v)
		}
	}
}

func TestP102Text(t *testing.T) {
	long := strings.Repeat("x", 300)
	for _, c := range []struct {
		l    []string
		want string
	}{
		{nil, ""},
		{[]string{""}, "\x00"},
		{[]string{"A", "", "bc"}, "\x01A\x00\x02bc"},
		{[]string{"\x00\xff"}, "\x02\x00\xff"},
		{[]string{"ü"}, "\x02\xc3\xbc"},
		{[]string{long[:127]}, "\x7f" + long[:127]},
		{[]string{long[:128]}, "\x80\x01" + long[:128]},
		{[]string{long}, "\xac\x02" + long},
	} {
		if got := Text(c.l...); got != c.want {
			t.Errorf("Text(%q): %q, not %q", c.l, got, c.want)
		}
	}
	if Bool(true) != "\x01" || Bool(false) != "\x00" {
		t.Errorf("Bool: %q, %q", Bool(true), Bool(false))
	}
}

func TestP104Digits(t *testing.T) {
	for _, c := range []struct {
		v    int
		want string
	}{
		{0, "0"}, {7, "7"}, {-50, "-50"}, {1000, "1000"},
		{math.MaxInt, "9223372036854775807"}, {math.MinInt, "-9223372036854775808"},
	} {
		if got := Digits(c.v); got != c.want {
			t.Errorf("Digits(%d): %q, not %q", c.v, got, c.want)
		}
	}
}

func TestP104Number(t *testing.T) {
	for _, v := range []int{0, 7, -7, 10, -10, 905, 123456789, 1e17, -1e17, 1e18 - 1, 1 - 1e18} {
		if got, e := Number(strconv.Itoa(v)); got != v || e != api.OK {
			t.Errorf("Number(%d): %d, %d", v, got, e)
		}
	}
	for _, s := range []string{
		"", "-", "--1", "-0", "00", "01", "-01", "+1", " 1", "1 ", "1x", "x", "1-", "1.5", "1e3", "0x1", "1_000", "/", ":", "1\x00", "\xb2", "\u0663",
		"1000000000000000000", "-1000000000000000000", "0000000000000000000", "9223372036854775807", strings.Repeat("9", 400),
	} {
		if got, e := Number(s); got != 0 || e != api.ErrArg {
			t.Errorf("Number(%q): %d, %d, not 0, %d", s, got, e, api.ErrArg)
		}
	}
}

func TestP105ReadAsLaid(t *testing.T) {
	for _, v := range edges() {
		fixed, e := Fix(v, 8)
		unfixed, e2 := Unfix(fixed, 0, 8)
		if e != api.OK || e2 != api.OK || unfixed != v || Zig(Zag(v)) != v || Zag(Zig(int(v))) != int(v) {
			t.Errorf("%d: Fix %q, %d; Unfix %d, %d; Zig(Zag) %d", v, fixed, e, unfixed, e2, Zig(Zag(v)))
		}
		text := strings.Repeat("é\x00", int(v%200))
		r := NewReader(Var(v) + Var(Zig(int(v))) + Text(text, "") + Bool(v&1 == 1) + fixed)
		if a, b := r.Var(), r.Int(); a != v || b != int(v) {
			t.Errorf("of %d: Var %d, Int %d", v, a, b)
		}
		if a, b := r.Text(600), r.Text(0); a != text || b != "" {
			t.Errorf("of %d: Text %q, %q, not %q", v, a, b, text)
		}
		if a, b := r.Bool(), r.Fix(8); a != (v&1 == 1) || b != v || r.End() != api.OK {
			t.Errorf("of %d: Bool %t, Fix %d, End %d", v, a, b, r.End())
		}
	}
}

func TestP105OrderAndOne(t *testing.T) {
	l := edges()
	slices.Sort(l)
	l = slices.Compact(l)
	laid := map[string]uint64{}
	for _, v := range l {
		if w, ok := laid[Var(v)]; ok {
			t.Errorf("Var of %d is that of %d", v, w)
		}
		laid[Var(v)] = v
	}
	for n := 1; n <= 8; n++ {
		ahead := ""
		for _, v := range l {
			b, e := Fix(v, n)
			if e != api.OK {
				continue
			}
			if len(b) != n || b <= ahead {
				t.Errorf("Fix(%d, %d): %q, behind %q", v, n, b, ahead)
			}
			ahead = b
		}
	}
}
