package wal

import (
	"fmt"
	"math"
	"slices"
	"testing"

	"cornucopia/api"
	"cornucopia/file"
)

func TestP601Name(t *testing.T) {
	for _, c := range []struct {
		num  int
		want string
	}{
		{7, "w00000007"},
		{0, "w00000000"},
		{10, "w00000010"},
		{12345678, "w12345678"},
		{90000001, "w90000001"},
		{99999999, "w99999999"},
		{100000000, "w00000000"},
		{100000005, "w00000005"},
		{-1, "w99999999"},
		{-99999999, "w00000001"},
		{-100000000, "w00000000"},
		{-100000001, "w99999999"},
		{math.MaxInt, "w54775807"},
		{math.MinInt, "w45224192"},
	} {
		if got := Name(c.num); got != c.want {
			t.Errorf("Name(%d): %q, not %q", c.num, got, c.want)
		}
	}
}

func TestP601NameDigits(t *testing.T) {
	for n := 1; n < 100_000_000; n = n*3 + 1 {
		if got, want := Name(n), fmt.Sprintf("w%08d", n); got != want {
			t.Errorf("Name(%d): %q, not %q", n, got, want)
		}
	}
}

func TestP601Segments(t *testing.T) {
	f := file.New(0)
	if got := Segments(f); len(got) != 0 {
		t.Errorf("of no files: %v", got)
	}
	for _, name := range []string{
		"w00000020", "w00000003", "w99999999", "w00000000", "w10000000", "w09999999",
		"w", "w1", "w0000001", "w000000001", "w00000001~", "~w00000001", "W00000001", "x00000001", "t00000001", "m00000001",
		"w0000000x", "wx0000000", "w000/0000", "w000:0000", "w-0000001", "w+0000001", "w 0000001", "w0000000\x00", "w\xff0000000", "000000001", "CURRENT",
		"w٣٣٣٣",
	} {
		if e := f.Create(name); e != api.OK {
			t.Fatalf("%q: %d", name, e)
		}
	}
	want := []int{0, 3, 20, 9999999, 10000000, 99999999}
	if got := Segments(f); !slices.Equal(got, want) {
		t.Errorf("%v, not %v", got, want)
	}
	f.Remove("w00000003")
	f.Rename("w00000020", "x")
	f.Rename("x00000001", "w00000001")
	want = []int{0, 1, 9999999, 10000000, 99999999}
	if got := Segments(f); !slices.Equal(got, want) {
		t.Errorf("behind changes: %v, not %v", got, want)
	}
	got := Segments(f)
	got[0] = 77
	if got := Segments(f); !slices.Equal(got, want) {
		t.Errorf("behind a change of what was told: %v, not %v", got, want)
	}
}

func TestP601SegmentsOfNames(t *testing.T) {
	f := file.New(0)
	var want []int
	for n := 1; n < 100_000_000; n = n*2 + 3 {
		f.Create(Name(n))
		want = append(want, n)
	}
	if got := Segments(f); !slices.Equal(got, want) {
		t.Errorf("%v, not %v", got, want)
	}
}

func TestP601SegmentsWithoutPower(t *testing.T) {
	f := file.New(0)
	f.Create(Name(1))
	f.Crash(1)
	if got := Segments(f); len(got) != 0 {
		t.Errorf("without power: %v", got)
	}
	f.Restore()
	if got := Segments(f); !slices.Equal(got, []int{1}) {
		t.Errorf("with power again: %v", got)
	}
	if got := Segments(nil); len(got) != 0 {
		t.Errorf("of none: %v", got)
	}
	if got := Segments(&file.System{}); len(got) != 0 {
		t.Errorf("of a zero one: %v", got)
	}
}
