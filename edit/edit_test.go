package edit

import (
	"encoding/binary"
	"math"
	"math/rand"
	"reflect"
	"runtime"
	"slices"
	"strings"
	"testing"
	"unsafe"

	"cornucopia/api"
)

var longKey = strings.Repeat("k", api.MaxKey)

// plainBytes is the chapter word by word; ints below 0 wrap round.
func plainBytes(e Edit) string {
	var b []byte
	lay := func(l ...int) {
		for _, v := range l {
			b = binary.AppendUvarint(b, uint64(v))
		}
	}
	text := func(s string) {
		lay(len(s))
		b = append(b, s...)
	}
	lay(e.Log, e.Next)
	b = binary.AppendUvarint(b, e.Seq)
	lay(len(e.Add))
	for _, t := range e.Add {
		lay(t.Num, t.Level, t.Size)
		text(t.First)
		text(t.Last)
	}
	lay(len(e.Drop))
	lay(e.Drop...)
	return string(b)
}

// sameEdit holds edits against each other; lists that are nil and empty are one.
func sameEdit(a, b Edit) bool {
	return a.Log == b.Log && a.Next == b.Next && a.Seq == b.Seq && slices.Equal(a.Add, b.Add) && slices.Equal(a.Drop, b.Drop)
}

func cloneEdit(e Edit) Edit {
	e.Add, e.Drop = slices.Clone(e.Add), slices.Clone(e.Drop)
	return e
}

// edits are those that Put takes and Get tells again.
func edits() []Edit {
	l := []Edit{
		{},
		{Log: 1},
		{Next: 1},
		{Seq: 1},
		{Log: 2, Next: 300, Seq: math.MaxUint64},
		{Log: 1 << 62, Next: 1 << 62, Seq: 1 << 63, Drop: []int{1 << 62, 0, 127, 128}},
		{Add: []api.Table{{}}, Drop: []int{0}},
		{Add: []api.Table{{Num: 1 << 62, Level: 1 << 62, Size: 1 << 62, First: longKey, Last: longKey}}},
		{Add: []api.Table{{Num: 1, Level: 2, Size: 3, First: "z", Last: "a"}, {Num: 1, Level: 2, Size: 3, First: "\x00", Last: "\xff\xfe"}}, Drop: []int{9, 9}},
		{Add: make([]api.Table, 10_000), Drop: make([]int, 10_000)},
	}
	r := rand.New(rand.NewSource(12))
	for range 300 {
		e := Edit{Log: r.Intn(1 << r.Intn(31)), Next: r.Intn(1 << r.Intn(31)), Seq: r.Uint64() >> r.Intn(64)}
		for range r.Intn(5) {
			e.Add = append(e.Add, api.Table{Num: r.Intn(500), Level: r.Intn(200), Size: r.Intn(70000), First: longKey[:r.Intn(301)], Last: longKey[:r.Intn(4)]})
		}
		for range r.Intn(5) {
			e.Drop = append(e.Drop, r.Intn(500))
		}
		l = append(l, e)
	}
	return l
}

func TestP1201PutAndGet(t *testing.T) {
	for _, e := range edits() {
		given := cloneEdit(e)
		b, err := Put(e)
		if err != api.OK || b != plainBytes(e) {
			t.Errorf("Put(%.200v): %.99q, %d, not %.99q", e, b, err, plainBytes(e))
		}
		if !sameEdit(e, given) {
			t.Errorf("Put changed %.200v into %.200v", given, e)
		}
		if got, err := Get(b); err != api.OK || !sameEdit(got, e) {
			t.Errorf("Get(%.99q): %.200v, %d, not %.200v", b, got, err, e)
		}
	}
}

func TestP1201PutRefuses(t *testing.T) {
	good := Edit{Log: 1, Next: 2, Seq: 3, Add: make([]api.Table, 2), Drop: make([]int, 2)}
	for name, spoil := range map[string]func(Edit, int){
		"Num":         func(e Edit, v int) { e.Add[0].Num = v },
		"second Num":  func(e Edit, v int) { e.Add[1].Num = v },
		"Level":       func(e Edit, v int) { e.Add[1].Level = v },
		"Size":        func(e Edit, v int) { e.Add[1].Size = v },
		"Drop":        func(e Edit, v int) { e.Drop[0] = v },
		"second Drop": func(e Edit, v int) { e.Drop[1] = v },
	} {
		for v, want := range map[int]api.Errno{-1: api.ErrArg, math.MinInt: api.ErrArg, 0: api.OK, math.MaxInt: api.OK} {
			e := cloneEdit(good)
			spoil(e, v)
			if b, err := Put(e); err != want || (b == "") != (want != api.OK) {
				t.Errorf("Put, %s %d: %q, %d, not %d", name, v, b, err, want)
			}
		}
	}
	for _, e := range []Edit{{Log: -1}, {Next: -1}, {Log: math.MinInt, Next: 5}, {Log: 5, Next: math.MinInt}} {
		if b, err := Put(e); b != "" || err != api.ErrArg {
			t.Errorf("Put(%v): %q, %d", e, b, err)
		}
	}
}

// Put names no error of what is too great, too long or too many: it lays it, and Get refuses it.
func TestP1201TooMuchForGet(t *testing.T) {
	for _, c := range []struct {
		e    Edit
		want api.Errno
	}{
		{Edit{Log: 1<<62 + 1}, api.ErrForm},
		{Edit{Next: 1<<62 + 1}, api.ErrForm},
		{Edit{Log: math.MaxInt, Seq: 1}, api.ErrForm},
		{Edit{Drop: []int{1, 1<<62 + 1}}, api.ErrForm},
		{Edit{Add: []api.Table{{}, {Num: 1<<62 + 1}}}, api.ErrForm},
		{Edit{Add: []api.Table{{Level: 1<<62 + 1}}}, api.ErrForm},
		{Edit{Add: []api.Table{{Size: 1<<62 + 1}}}, api.ErrForm},
		{Edit{Add: []api.Table{{First: longKey + "k"}}}, api.ErrLong},
		{Edit{Add: []api.Table{{Last: longKey + "k"}}}, api.ErrLong},
		{Edit{Add: make([]api.Table, 10_001)}, api.ErrLong},
		{Edit{Drop: make([]int, 10_001)}, api.ErrLong},
		// The first one, in the order of the bytes, is told.
		{Edit{Log: 1<<62 + 1, Drop: make([]int, 10_001)}, api.ErrForm},
		{Edit{Add: []api.Table{{First: longKey + "k"}}, Drop: []int{1<<62 + 1}}, api.ErrLong},
	} {
		b, err := Put(c.e)
		if err != api.OK || b != plainBytes(c.e) {
			t.Errorf("Put(%.99v): %.99q, %d", c.e, b, err)
		}
		if e, err := Get(b); err != c.want || !reflect.DeepEqual(e, Edit{}) {
			t.Errorf("Get(%.99q): %.99v, %d, not %d", b, e, err, c.want)
		}
	}
}

func TestP1201GetRefuses(t *testing.T) {
	huge := "\xff\xff\xff\xff\xff\xff\xff\xff\xff\x01"
	for _, c := range []struct {
		b    string
		want api.Errno
	}{
		{"", api.ErrShort},
		{"\x00\x00\x00\x00\x00x", api.ErrForm},
		{"\x00\x00\x00\x00\x00\x00", api.ErrForm},
		{huge, api.ErrForm},
		{"\x00" + huge, api.ErrForm},
		{"\x00\x00" + huge, api.ErrShort},
		{"\x00\x00" + huge + "\x00", api.ErrShort},
		{"\x80\x00\x00\x00\x00\x00", api.ErrForm}, // a number in more groups than it takes
		{"\x00\x00\x80\x00\x00\x00", api.ErrForm},
		{"\x00\x00\x00\x80\x00\x00", api.ErrForm},
		{"\x00\x00\x00\x00\x80\x00", api.ErrForm},
		{"\x00\x00\x00" + huge, api.ErrLong},
		{"\x00\x00\x00\x00" + huge, api.ErrLong},
		{"\x00\x00\x00\x01\x00\x00\x00\x02a", api.ErrShort},
		{"\x00\x00\x00\x01\x00\x00\x00\x01a\x01", api.ErrShort},
		{"\x00\x00\x00\x00\x02\x07", api.ErrShort},
	} {
		if e, err := Get(c.b); err != c.want || !reflect.DeepEqual(e, Edit{}) {
			t.Errorf("Get(%q): %v, %d, not %d", c.b, e, err, c.want)
		}
	}
	whole := plainBytes(Edit{Log: 200, Next: 300, Seq: 400, Add: []api.Table{{Num: 1, Level: 2, Size: 300, First: "ab", Last: longKey}, {Num: 2, Size: 1}}, Drop: []int{4, 500}})
	for n := range len(whole) {
		if e, err := Get(whole[:n]); err != api.ErrShort || !reflect.DeepEqual(e, Edit{}) {
			t.Errorf("Get of the first %d bytes: %v, %d", n, e, err)
		}
	}
}

// A few bytes that tell of many tables must not take the room of many.
func TestP1201GetOfFewBytesIsSmall(t *testing.T) {
	many := string(binary.AppendUvarint(nil, 10_000))
	for _, b := range []string{"\x00\x00\x00" + many, "\x00\x00\x00\x00" + many, "\x00\x00\x00" + many + "\x00\x00"} {
		var before, behind runtime.MemStats
		runtime.ReadMemStats(&before)
		for range 100 {
			Get(b)
		}
		runtime.ReadMemStats(&behind)
		if n := (behind.TotalAlloc - before.TotalAlloc) / 100; n > 2000 {
			t.Errorf("Get(%q) takes %d bytes", b, n)
		}
	}
}

// shares tells whether a text stands in the bytes of another.
func shares(s, of string) bool {
	p, from := uintptr(unsafe.Pointer(unsafe.StringData(s))), uintptr(unsafe.Pointer(unsafe.StringData(of)))
	return len(s) > 0 && len(of) > 0 && from <= p && p < from+uintptr(len(of))
}

func TestP1201GetIsNewMemory(t *testing.T) {
	b := plainBytes(Edit{Add: []api.Table{{Num: 1, First: "apple", Last: "pear"}}})
	e, err := Get(b)
	if err != api.OK || shares(e.Add[0].First, b) || shares(e.Add[0].Last, b) {
		t.Errorf("Get: %v, %d; its texts stand in what was handed in", e, err)
	}
}
