package num

import (
	"math"
	"strings"
	"testing"

	"cornucopia/api"
)

var nine = strings.Repeat("\xff", 9)

// is holds what a call answered, and its reader then, against what is wanted.
func is[T comparable](t *testing.T, what string, r *Reader, got, want T, e api.Errno, left int) {
	t.Helper()
	if got != want || r.Err() != e || r.Left() != left {
		t.Errorf("%s: %v, error %d, %d left; not %v, %d, %d", what, got, r.Err(), r.Left(), want, e, left)
	}
}

func TestP103Var(t *testing.T) {
	for _, c := range []struct {
		b    string
		want uint64
		e    api.Errno
		left int
	}{
		{"\x00", 0, api.OK, 0},
		{"\x00\x00", 0, api.OK, 1},
		{"\x7fx", 127, api.OK, 1},
		{"\x80\x01", 128, api.OK, 0},
		{"\xac\x02\xff", 300, api.OK, 1},
		{"\x80\x80\x01", 1 << 14, api.OK, 0},
		{nine[:8] + "\x7f", 1<<63 - 1, api.OK, 0},
		{nine + "\x01", math.MaxUint64, api.OK, 0},
		{nine + "\x01\x80", math.MaxUint64, api.OK, 1},
		{"", 0, api.ErrShort, 0},
		{"\x80", 0, api.ErrShort, 1},
		{"\xff\xff\xff", 0, api.ErrShort, 3},
		{nine, 0, api.ErrShort, 9},
		{"\x80\x00", 0, api.ErrForm, 2},
		{"\x81\x80\x00x", 0, api.ErrForm, 4},
		{nine + "\x00", 0, api.ErrForm, 10},
		{nine + "\x02", 0, api.ErrForm, 10},
		{nine + "\x7f", 0, api.ErrForm, 10},
		{nine + "\x80", 0, api.ErrForm, 10},
		{nine + "\x81\x01", 0, api.ErrForm, 11},
		{nine + nine, 0, api.ErrForm, 18},
	} {
		r := NewReader(c.b)
		is(t, "Var", r, r.Var(), c.want, c.e, c.left)
		r = NewReader(c.b)
		is(t, "Int", r, r.Int(), Zag(c.want), c.e, c.left)
	}
}

func TestP103Int(t *testing.T) {
	for _, v := range []int{0, 1, -1, 2, -2, 63, -64, 64, -65, math.MaxInt, math.MinInt} {
		r := NewReader(Var(Zig(v)))
		is(t, "Int", r, r.Int(), v, api.OK, 0)
	}
}

func TestP103Count(t *testing.T) {
	for _, c := range []struct {
		b          string
		most, want int
		e          api.Errno
		left       int
	}{
		{"\x05", 5, 5, api.OK, 0},
		{"\x05x", 9, 5, api.OK, 1},
		{"\x00", 0, 0, api.OK, 0},
		{"\xac\x02", 300, 300, api.OK, 0},
		{nine[:8] + "\x7f", math.MaxInt, math.MaxInt, api.OK, 0},
		{"\x06", 5, 0, api.ErrLong, 1},
		{"\x01", 0, 0, api.ErrLong, 1},
		{"\x00", -1, 0, api.ErrLong, 1},
		{"\x05", math.MinInt, 0, api.ErrLong, 1},
		{nine + "\x01", math.MaxInt, 0, api.ErrLong, 10},
		{nine + "\x01", -1, 0, api.ErrLong, 10},
		{"", -1, 0, api.ErrShort, 0},
		{"\x80", 0, 0, api.ErrShort, 1},
		{"\x85\x00", -1, 0, api.ErrForm, 2},
	} {
		r := NewReader(c.b)
		is(t, "Count", r, r.Count(c.most), c.want, c.e, c.left)
	}
}

func TestP103Text(t *testing.T) {
	long := strings.Repeat("y", 300)
	for _, c := range []struct {
		b    string
		most int
		want string
		e    api.Errno
		left int
	}{
		{"\x02ab", 2, "ab", api.OK, 0},
		{"\x02abc", 9, "ab", api.OK, 1},
		{"\x00", 0, "", api.OK, 0},
		{"\x02\x00\xff", 2, "\x00\xff", api.OK, 0},
		{"\xac\x02" + long, 300, long, api.OK, 0},
		{"\xac\x02" + long, 299, "", api.ErrLong, 302},
		{"\x02ab", 1, "", api.ErrLong, 3},
		{"\x02a", 1, "", api.ErrLong, 2},
		{"\x00", -1, "", api.ErrLong, 1},
		{"\x02a", 2, "", api.ErrShort, 2},
		{"\x01", 2, "", api.ErrShort, 1},
		{nine[:8] + "\x7fab", math.MaxInt, "", api.ErrShort, 11},
		{"", 2, "", api.ErrShort, 0},
		{"\x80", 2, "", api.ErrShort, 1},
		{"\x80\x00", 2, "", api.ErrForm, 2},
	} {
		r := NewReader(c.b)
		is(t, "Text", r, r.Text(c.most), c.want, c.e, c.left)
	}
}

func TestP103Bool(t *testing.T) {
	for _, c := range []struct {
		b    string
		want bool
		e    api.Errno
		left int
	}{
		{"\x00", false, api.OK, 0},
		{"\x01", true, api.OK, 0},
		{"\x01\x02", true, api.OK, 1},
		{"", false, api.ErrShort, 0},
		{"\x02", false, api.ErrForm, 1},
		{"\x80\x01", false, api.ErrForm, 2},
		{"\xff", false, api.ErrForm, 1},
		{"1", false, api.ErrForm, 1},
	} {
		r := NewReader(c.b)
		is(t, "Bool", r, r.Bool(), c.want, c.e, c.left)
	}
}

func TestP103Fix(t *testing.T) {
	for _, c := range []struct {
		b    string
		n    int
		want uint64
		e    api.Errno
		left int
	}{
		{"\x01\x02", 2, 258, api.OK, 0},
		{"\x01\x02", 1, 1, api.OK, 1},
		{"\xff\xff\xff\xff\xff\xff\xff\xff!", 8, math.MaxUint64, api.OK, 1},
		{"\x01", 2, 0, api.ErrShort, 1},
		{"", 1, 0, api.ErrShort, 0},
		{"", 0, 0, api.ErrArg, 0},
		{"\x01", 0, 0, api.ErrArg, 1},
		{"\x01", -1, 0, api.ErrArg, 1},
		{"123456789", 9, 0, api.ErrArg, 9},
		{"1", math.MinInt, 0, api.ErrArg, 1},
	} {
		r := NewReader(c.b)
		is(t, "Fix", r, r.Fix(c.n), c.want, c.e, c.left)
	}
}

func TestP103InTurn(t *testing.T) {
	r := NewReader("\x01\xac\x02\x03\x02ab\x01\x02\x05\x00")
	is(t, "Bool", r, r.Bool(), true, api.OK, 10)
	is(t, "Var", r, r.Var(), 300, api.OK, 8)
	is(t, "Int", r, r.Int(), -2, api.OK, 7)
	is(t, "Text", r, r.Text(2), "ab", api.OK, 4)
	is(t, "Fix", r, r.Fix(2), 258, api.OK, 2)
	is(t, "End ahead of the end", r, r.End(), api.ErrForm, api.OK, 2)
	is(t, "Count", r, r.Count(5), 5, api.OK, 1)
	is(t, "Bool", r, r.Bool(), false, api.OK, 0)
	is(t, "End", r, r.End(), api.OK, api.OK, 0)
	is(t, "Var at the end", r, r.Var(), 0, api.ErrShort, 0)
	is(t, "End behind an error", r, r.End(), api.ErrShort, api.ErrShort, 0)
}

// dead holds a reader with an error against what each call must then do: nothing.
func dead(t *testing.T, r *Reader, e api.Errno, left int) {
	t.Helper()
	is(t, "Var", r, r.Var(), 0, e, left)
	is(t, "Int", r, r.Int(), 0, e, left)
	is(t, "Count", r, r.Count(100), 0, e, left)
	is(t, "Text", r, r.Text(100), "", e, left)
	is(t, "Bool", r, r.Bool(), false, e, left)
	is(t, "Fix", r, r.Fix(1), 0, e, left)
	is(t, "Fix of no width", r, r.Fix(0), 0, e, left)
	r.Fail(api.ErrDup)
	r.Fail(api.OK)
	is(t, "End", r, r.End(), e, e, left)
}

func TestP103FirstErrorStays(t *testing.T) {
	for _, e := range []api.Errno{api.ErrRead, api.ErrArg, -5, 1000} {
		r := NewReader("\x01\x01\x01")
		r.Var()
		r.Fail(api.OK)
		is(t, "Fail(OK)", r, r.Bool(), true, api.OK, 1)
		r.Fail(e)
		dead(t, r, e, 1)
	}
	r := NewReader("\x01\x01")
	r.Fix(9)
	dead(t, r, api.ErrArg, 2)
	r = NewReader("\x02\x01\x01")
	r.Bool()
	dead(t, r, api.ErrForm, 3)
	r = NewReader("\x01\x01")
	r.Count(0)
	dead(t, r, api.ErrLong, 2)
	r = NewReader("\x03\x01\x01")
	r.Text(3)
	dead(t, r, api.ErrShort, 3)
	r = NewReader("\x01\x01")
	r.Fail(api.ErrSum)
	dead(t, r, api.ErrSum, 2)
}

func TestP105NoReader(t *testing.T) {
	var none *Reader
	none.Fail(api.ErrForm)
	dead(t, none, api.ErrArg, 0)
	var zero Reader
	is(t, "zero: End", &zero, zero.End(), api.OK, api.OK, 0)
	is(t, "zero: Var", &zero, zero.Var(), 0, api.ErrShort, 0)
	dead(t, &zero, api.ErrShort, 0)
	var other Reader
	other.Fail(api.ErrNone)
	dead(t, &other, api.ErrNone, 0)
	r := NewReader("")
	is(t, "empty: End", r, r.End(), api.OK, api.OK, 0)
}
