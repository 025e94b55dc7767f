package mani

import (
	"fmt"
	"math"
	"testing"
)

func TestP1301Name(t *testing.T) {
	for _, c := range []struct {
		num  int
		want string
	}{
		{1, "m00000001"},
		{0, "m00000000"},
		{10, "m00000010"},
		{12345678, "m12345678"},
		{99999999, "m99999999"},
		{100000000, "m00000000"},
		{100000007, "m00000007"},
		{-1, "m99999999"},
		{-100000000, "m00000000"},
		{-100000001, "m99999999"},
		{math.MaxInt, "m54775807"},
		{math.MinInt, "m45224192"},
	} {
		if got := Name(c.num); got != c.want {
			t.Errorf("Name(%d): %q, not %q", c.num, got, c.want)
		}
	}
}

func TestP1301NameAndBack(t *testing.T) {
	for n := 0; n < 100_000_000; n = n*3 + 1 {
		name := Name(n)
		if want := fmt.Sprintf("m%08d", n); name != want {
			t.Errorf("Name(%d): %q, not %q", n, name, want)
		}
		if num, ok := number(name); num != n || !ok {
			t.Errorf("number(%q): %d, %v", name, num, ok)
		}
	}
}

// wrongNames are no names of files of edits.
var wrongNames = []string{
	"", "m", "m1", "m9", "m0000001", "m000000001", "m00000001~", "m00000001\n", " m00000001", "M00000001", "w00000001", "t00000001",
	"m0000000x", "mx0000000", "m000/0000", "m000:0000", "m-0000001", "m+0000001", "m 0000001", "m0000000\x00", "m\xff0000000",
	"000000001", "m٣٣٣٣", "m0_000_00", "CURRENT", "CURRENT~",
}

func TestP1301NoNumber(t *testing.T) {
	for _, s := range wrongNames {
		if num, ok := number(s); num != 0 || ok {
			t.Errorf("number(%q): %d, %v", s, num, ok)
		}
	}
}
