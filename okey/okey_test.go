package okey

import (
	"cmp"
	"math"
	"slices"
	"strings"
	"testing"

	"cornucopia/api"
)

func text(s string) Part   { return Part{Kind: KindText, S: s} }
func number(v uint64) Part { return Part{Kind: KindNum, N: v} }
func integer(v int) Part   { return Part{Kind: KindInt, I: v} }

// texts are all those of up to three bytes that mean something, and those beside them.
func texts() []string {
	letters := []string{"\x00", "\x01", "\x02", "a", "\xfe", "\xff"}
	l, last := []string{""}, []string{""}
	for range 3 {
		var longer []string
		for _, s := range last {
			for _, c := range letters {
				longer = append(longer, s+c)
			}
		}
		l, last = append(l, longer...), longer
	}
	return l
}

func numbers() []uint64 {
	l := []uint64{0, math.MaxUint64}
	for i := range 64 {
		l = append(l, 1<<i-1, 1<<i, 1<<i+1)
	}
	return l
}

func ints() []int {
	var l []int
	for _, v := range numbers() {
		l = append(l, int(v), -int(v))
	}
	return l
}

func TestP201Text(t *testing.T) {
	for _, c := range []struct{ s, want string }{
		{"", "\x00\x01"},
		{"a", "a\x00\x01"},
		{"a\x00b", "a\x00\xffb\x00\x01"},
		{"\x00", "\x00\xff\x00\x01"},
		{"\x00\x00", "\x00\xff\x00\xff\x00\x01"},
		{"\x00\x01", "\x00\xff\x01\x00\x01"},
		{"\x00\xff", "\x00\xff\xff\x00\x01"},
		{"\xff\x01", "\xff\x01\x00\x01"},
		{"é", "\xc3\xa9\x00\x01"},
		{strings.Repeat("\x00", 300), strings.Repeat("\x00\xff", 300) + "\x00\x01"},
	} {
		if got := Text(c.s); got != c.want {
			t.Errorf("Text(%q): %q, not %q", c.s, got, c.want)
		}
	}
}

func TestP201Num(t *testing.T) {
	for _, c := range []struct {
		v    uint64
		want string
	}{
		{0, "\x00\x00\x00\x00\x00\x00\x00\x00"},
		{1, "\x00\x00\x00\x00\x00\x00\x00\x01"},
		{258, "\x00\x00\x00\x00\x00\x00\x01\x02"},
		{0x0102030405060708, "\x01\x02\x03\x04\x05\x06\x07\x08"},
		{1 << 63, "\x80\x00\x00\x00\x00\x00\x00\x00"},
		{math.MaxUint64, "\xff\xff\xff\xff\xff\xff\xff\xff"},
	} {
		if got := Num(c.v); got != c.want {
			t.Errorf("Num(%d): %q, not %q", c.v, got, c.want)
		}
	}
}

func TestP201Int(t *testing.T) {
	for _, c := range []struct {
		v    int
		want string
	}{
		{math.MinInt, "\x00\x00\x00\x00\x00\x00\x00\x00"},
		{math.MinInt + 1, "\x00\x00\x00\x00\x00\x00\x00\x01"},
		{-258, "\x7f\xff\xff\xff\xff\xff\xfe\xfe"},
		{-1, "\x7f\xff\xff\xff\xff\xff\xff\xff"},
		{0, "\x80\x00\x00\x00\x00\x00\x00\x00"},
		{1, "\x80\x00\x00\x00\x00\x00\x00\x01"},
		{258, "\x80\x00\x00\x00\x00\x00\x01\x02"},
		{math.MaxInt, "\xff\xff\xff\xff\xff\xff\xff\xff"},
	} {
		if got := Int(c.v); got != c.want {
			t.Errorf("Int(%d): %q, not %q", c.v, got, c.want)
		}
	}
}

func TestP202Put(t *testing.T) {
	full := Part{S: "a\x00", N: 7, I: -7}
	kind := func(k int) Part { p := full; p.Kind = k; return p }
	for _, c := range []struct {
		l    []Part
		want string
		e    api.Errno
	}{
		{nil, "", api.OK},
		{[]Part{kind(KindText)}, Text("a\x00"), api.OK},
		{[]Part{kind(KindNum)}, Num(7), api.OK},
		{[]Part{kind(KindInt)}, Int(-7), api.OK},
		{[]Part{kind(KindInt), kind(KindText), kind(KindNum), kind(KindText)}, Int(-7) + Text("a\x00") + Num(7) + Text("a\x00"), api.OK},
		{[]Part{text(""), number(0), integer(0)}, Text("") + Num(0) + Int(0), api.OK},
		{[]Part{kind(0)}, "", api.ErrArg},
		{[]Part{kind(4)}, "", api.ErrArg},
		{[]Part{kind(-1)}, "", api.ErrArg},
		{[]Part{kind(math.MaxInt)}, "", api.ErrArg},
		{[]Part{kind(math.MinInt)}, "", api.ErrArg},
		{[]Part{kind(KindText), kind(KindNum), kind(0)}, "", api.ErrArg},
		{[]Part{kind(4), kind(KindText)}, "", api.ErrArg},
	} {
		if got, e := Put(c.l...); got != c.want || e != c.e {
			t.Errorf("Put(%#v): %q, %d, not %q, %d", c.l, got, e, c.want, c.e)
		}
	}
}

func TestP202PutLeavesItsParts(t *testing.T) {
	l := []Part{text("a\x00"), number(1), integer(-1)}
	kept := slices.Clone(l)
	Put(l...)
	if !slices.Equal(l, kept) {
		t.Errorf("Put changed its parts: %#v, not %#v", l, kept)
	}
}

func TestP202Get(t *testing.T) {
	for _, c := range []struct {
		b     string
		kinds []int
		want  []Part
		rest  string
	}{
		{"", nil, nil, ""},
		{"xyz", nil, nil, "xyz"},
		{"a\x00\x01", []int{KindText}, []Part{text("a")}, ""},
		{"\x00\x01", []int{KindText}, []Part{text("")}, ""},
		{"\x00\x01\x00\x01", []int{KindText}, []Part{text("")}, "\x00\x01"},
		{"\x00\xff\x00\x01\x00", []int{KindText}, []Part{text("\x00")}, "\x00"},
		{"\x00\xff\x01\x00\x01\x02", []int{KindText}, []Part{text("\x00\x01")}, "\x02"},
		{"\x00\xff\xff\x00\x01\xff", []int{KindText}, []Part{text("\x00\xff")}, "\xff"},
		{"a\x00\xff\x00\xffb\x00\x01", []int{KindText}, []Part{text("a\x00\x00b")}, ""},
		{"\x00\x00\x00\x00\x00\x00\x01\x02", []int{KindNum}, []Part{number(258)}, ""},
		{"\xff\xff\xff\xff\xff\xff\xff\xff\x01", []int{KindNum}, []Part{number(math.MaxUint64)}, "\x01"},
		{"\xff\xff\xff\xff\xff\xff\xff\xff\x01", []int{KindInt}, []Part{integer(math.MaxInt)}, "\x01"},
		{"\x00\x00\x00\x00\x00\x00\x00\x00", []int{KindInt}, []Part{integer(math.MinInt)}, ""},
		{"\x7f\xff\xff\xff\xff\xff\xff\xff", []int{KindInt}, []Part{integer(-1)}, ""},
		{Int(-7) + Text("a\x00") + Num(7) + Text("") + "z", []int{KindInt, KindText, KindNum, KindText}, []Part{integer(-7), text("a\x00"), number(7), text("")}, "z"},
	} {
		got, rest, e := Get(c.b, c.kinds...)
		if !slices.Equal(got, c.want) || rest != c.rest || e != api.OK {
			t.Errorf("Get(%q, %v): %#v, %q, %d, not %#v, %q", c.b, c.kinds, got, rest, e, c.want, c.rest)
		}
	}
}

func TestP202GetErrors(t *testing.T) {
	for _, c := range []struct {
		b     string
		kinds []int
		e     api.Errno
	}{
		{"", []int{0}, api.ErrArg},
		{"", []int{4}, api.ErrArg},
		{"", []int{-1}, api.ErrArg},
		{"a\x00\x01", []int{math.MaxInt}, api.ErrArg},
		{"a\x00\x01", []int{math.MinInt}, api.ErrArg},
		{"a\x00\x01", []int{KindText, 0}, api.ErrArg},
		// A wrong kind is looked for first, wherever it stands.
		{"", []int{KindText, 9}, api.ErrArg},
		{"\x00\x02", []int{KindText, 9}, api.ErrArg},
		{"1", []int{KindNum, KindInt, 4}, api.ErrArg},
		{"", []int{KindText}, api.ErrShort},
		{"a", []int{KindText}, api.ErrShort},
		{"\x00", []int{KindText}, api.ErrShort},
		{"a\x00", []int{KindText}, api.ErrShort},
		{"a\x00\xff", []int{KindText}, api.ErrShort},
		{"a\x00\xff\x01", []int{KindText}, api.ErrShort},
		{"a\x00\xff\x00", []int{KindText}, api.ErrShort},
		{"\x01", []int{KindText}, api.ErrShort},
		{"", []int{KindNum}, api.ErrShort},
		{"1234567", []int{KindNum}, api.ErrShort},
		{"", []int{KindInt}, api.ErrShort},
		{"1234567", []int{KindInt}, api.ErrShort},
		{"12345678", []int{KindNum, KindNum}, api.ErrShort},
		{"123456781234567", []int{KindNum, KindInt}, api.ErrShort},
		{"a\x00\x01", []int{KindText, KindText}, api.ErrShort},
		{"a\x00\x011234567", []int{KindText, KindInt}, api.ErrShort},
		{"\x00\x00", []int{KindText}, api.ErrForm},
		{"\x00\x02", []int{KindText}, api.ErrForm},
		{"\x00\xfe", []int{KindText}, api.ErrForm},
		{"a\x00b\x00\x01", []int{KindText}, api.ErrForm},
		{"a\x00\x00\x01", []int{KindText}, api.ErrForm},
		{"a\x00\xff\x00\x02", []int{KindText}, api.ErrForm},
		{"a\x00\x01\x00\x02", []int{KindText, KindText}, api.ErrForm},
		{"12345678\x00\x03", []int{KindInt, KindText}, api.ErrForm},
		// What stands in front is read first.
		{"\x00\x02", []int{KindText, KindNum}, api.ErrForm},
		{"1\x00\x02", []int{KindNum, KindText}, api.ErrShort},
	} {
		got, rest, e := Get(c.b, c.kinds...)
		if len(got) != 0 || rest != "" || e != c.e {
			t.Errorf("Get(%q, %v): %#v, %q, %d, not %d alone", c.b, c.kinds, got, rest, e, c.e)
		}
	}
}

func TestP202GetEachMark(t *testing.T) {
	for mark := range 256 {
		want := api.ErrForm
		if mark == 1 || mark == 255 {
			want = api.OK
		}
		b := string([]byte{'a', 0, byte(mark), 'b', 0, 1})
		if _, _, e := Get(b, KindText); e != want {
			t.Errorf("Get(%q): %d, not %d", b, e, want)
		}
	}
}

func TestP202GetLeavesItsKinds(t *testing.T) {
	kinds := []int{KindText, KindNum, KindInt}
	Get(Text("a")+Num(1)+Int(1), kinds...)
	if !slices.Equal(kinds, []int{KindText, KindNum, KindInt}) {
		t.Errorf("Get changed its kinds: %v", kinds)
	}
}

func TestP203Next(t *testing.T) {
	for _, c := range []struct {
		s, want string
		is      bool
	}{
		{"a", "b", true},
		{"a\xff", "b", true},
		{"a\xff\xff\xff", "b", true},
		{"ab", "ac", true},
		{"a\xffb", "a\xffc", true},
		{"a\xff\xffb\xff", "a\xff\xffc", true},
		{"a\x00", "a\x01", true},
		{"\x00", "\x01", true},
		{"\xfe", "\xff", true},
		{"\xff\xfe", "\xff\xff", true},
		{"\x00\xff", "\x01", true},
		{"", "", false},
		{"\xff", "", false},
		{"\xff\xff\xff", "", false},
		{strings.Repeat("\xff", 300), "", false},
	} {
		if got, is := Next(c.s); got != c.want || is != c.is {
			t.Errorf("Next(%q): %q, %t, not %q, %t", c.s, got, is, c.want, c.is)
		}
	}
}

// TestP203NextIsLeast: the texts below what Next tells are just those that begin with s, and those below s.
func TestP203NextIsLeast(t *testing.T) {
	all := texts()
	for _, s := range all {
		next, is := Next(s)
		for _, other := range all {
			begins := strings.HasPrefix(other, s)
			below := !is || other < next
			if below != (begins || other < s) {
				t.Fatalf("Next(%q): %q, %t, and %q", s, next, is, other)
			}
		}
	}
}

func TestP204WhatWasPutIsGot(t *testing.T) {
	var l []Part
	var kinds []int
	for _, s := range texts() {
		l = append(l, text(s))
	}
	for _, v := range numbers() {
		l = append(l, number(v))
	}
	for _, v := range ints() {
		l = append(l, integer(v))
	}
	for _, p := range l {
		kinds = append(kinds, p.Kind)
	}
	b, e := Put(l...)
	if e != api.OK {
		t.Fatalf("Put: %d", e)
	}
	got, rest, e := Get(b+"rest", kinds...)
	if !slices.Equal(got, l) || rest != "rest" || e != api.OK {
		t.Errorf("what was put is not got: rest %q, %d", rest, e)
	}
}

// lists are pairs of parts whose first ones are often the same, or begin with each other.
func lists(first, second int) [][]Part {
	of := func(kind int) []Part {
		switch kind {
		case KindText:
			return []Part{text(""), text("\x00"), text("\x00\x00"), text("\x00\x01"), text("\x00\xff"), text("\x01"), text("a"), text("a\x00"), text("a\x01"), text("\xff"), text("\xff\xff")}
		case KindNum:
			return []Part{number(0), number(1), number(255), number(256), number(1 << 63), number(math.MaxUint64)}
		}
		return []Part{integer(math.MinInt), integer(-256), integer(-1), integer(0), integer(1), integer(256), integer(math.MaxInt)}
	}
	var l [][]Part
	for _, p := range of(first) {
		for _, q := range of(second) {
			l = append(l, []Part{p, q})
		}
	}
	return l
}

func compareParts(p, q Part) int {
	return cmp.Or(strings.Compare(p.S, q.S), cmp.Compare(p.N, q.N), cmp.Compare(p.I, q.I))
}

func TestP204OrderOfLists(t *testing.T) {
	kinds := []int{KindText, KindNum, KindInt}
	for _, first := range kinds {
		for _, second := range kinds {
			l := lists(first, second)
			for _, p := range l {
				for _, q := range l {
					holdOrder(t, p, q)
				}
			}
		}
	}
}

func holdOrder(t *testing.T, p, q []Part) {
	t.Helper()
	a, _ := Put(p...)
	b, _ := Put(q...)
	want := slices.CompareFunc(p, q, compareParts)
	if got := strings.Compare(a, b); got != want {
		t.Errorf("%#v, %#v: their bytes compare as %d, not %d", p, q, got, want)
	}
	if want != 0 && strings.HasPrefix(a, b) {
		t.Errorf("%#v, %#v: the bytes of one begin with the other one's", p, q)
	}
}

func TestP204OrderOfParts(t *testing.T) {
	all := texts()
	slices.Sort(all)
	for i, s := range all[1:] {
		if Text(all[i]) >= Text(s) || strings.HasPrefix(Text(s), Text(all[i])) {
			t.Errorf("Text: %q, %q", all[i], s)
		}
	}
	nums := numbers()
	slices.Sort(nums)
	nums = slices.Compact(nums)
	for i, v := range nums[1:] {
		if Num(nums[i]) >= Num(v) {
			t.Errorf("Num: %d, %d", nums[i], v)
		}
	}
	signed := ints()
	slices.Sort(signed)
	signed = slices.Compact(signed)
	for i, v := range signed[1:] {
		if Int(signed[i]) >= Int(v) {
			t.Errorf("Int: %d, %d", signed[i], v)
		}
	}
}
