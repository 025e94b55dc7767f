package wal

import (
	"math"
	"slices"
	"strings"
	"testing"
	"unsafe"

	"cornucopia/api"
	"cornucopia/num"
)

func put(key, value string) api.Write { return api.Write{Key: key, Value: value} }

func del(key string) api.Write { return api.Write{Key: key, Del: true} }

func batch(first uint64, l ...api.Write) Batch { return Batch{First: first, Writes: l} }

var (
	longKey   = strings.Repeat("k", api.MaxKey)
	longValue = strings.Repeat("v", api.MaxData)
)

func same(a, b Batch) bool { return a.First == b.First && slices.Equal(a.Writes, b.Writes) }

// isNone tells whether a batch is zero, as it must be beside an error.
func isNone(b Batch) bool { return same(b, Batch{}) }

// raw lays writes word by word, whatever they are.
func raw(first, count uint64, l ...api.Write) string {
	var s strings.Builder
	s.WriteString(num.Var(first) + num.Var(count))
	for _, w := range l {
		s.WriteString(num.Bool(w.Del) + num.Text(w.Key) + num.Text(w.Value))
	}
	return s.String()
}

// batches are some that PutBatch takes.
func batches() []Batch {
	return []Batch{
		batch(5, put("a", "1"), del("b")),
		batch(0, put("", "")),
		batch(0, del("")),
		batch(math.MaxUint64, put("a", "")),
		batch(1<<63, del("a"), del("a"), put("a", "a"), put("a", "b")),
		batch(300, put(longKey, longValue), del(longKey), put("", longValue)),
		batch(1, put("\x00\xff", "\xff\x00"), put("é", "\x80")),
	}
}

func TestP602PutBatch(t *testing.T) {
	for _, c := range []struct {
		b    Batch
		want string
	}{
		{batch(5, put("a", "1"), del("b")), "\x05\x02\x00\x01a\x011\x01\x01b\x00"},
		{batch(300, put("", "")), "\xac\x02\x01\x00\x00\x00"},
		{batch(0, del("")), "\x00\x01\x01\x00\x00"},
		{batch(math.MaxUint64, put("ab", "")), "\xff\xff\xff\xff\xff\xff\xff\xff\xff\x01\x01\x00\x02ab\x00"},
		{batch(1, put(longKey, longValue)), "\x01\x01\x00\xac\x02" + longKey + "\xe0\xd4\x03" + longValue},
		{batch(1, del(longKey)), "\x01\x01\x01\xac\x02" + longKey + "\x00"},
	} {
		if got, e := PutBatch(c.b); got != c.want || e != api.OK {
			t.Errorf("PutBatch(%.60v): %.60q, %d, not %.60q", c.b, got, e, c.want)
		}
	}
	for _, b := range batches() {
		want := raw(b.First, uint64(len(b.Writes)), b.Writes...)
		if got, e := PutBatch(b); got != want || e != api.OK {
			t.Errorf("PutBatch(%.60v): %.60q, %d, not %.60q", b, got, e, want)
		}
	}
}

// wrong are writes that no batch has.
func wrong() []api.Write {
	return []api.Write{
		put(longKey+"k", ""),
		put(longKey+longKey, "v"),
		put("", longValue+"v"),
		put("k", longValue+longValue),
		del(longKey + "k"),
		{Key: "a", Value: "x", Del: true},
		{Key: "", Value: "\x00", Del: true},
		{Key: "a", Value: longValue, Del: true},
	}
}

func TestP602PutBatchRefuses(t *testing.T) {
	for _, b := range []Batch{{}, {First: 5}, {First: 5, Writes: []api.Write{}}, {First: 5, Writes: make([]api.Write, 0, 4)}} {
		if got, e := PutBatch(b); got != "" || e != api.ErrArg {
			t.Errorf("of no write: %q, %d", got, e)
		}
	}
	for _, w := range wrong() {
		for _, l := range [][]api.Write{{w}, {w, put("a", "")}, {put("a", "1"), w}, {del("a"), w, del("b")}} {
			if got, e := PutBatch(batch(1, l...)); got != "" || e != api.ErrArg {
				t.Errorf("of %.60v: %.60q, %d", l, got, e)
			}
		}
	}
}

// full is a batch of just so many bytes, near MaxBatch: long values, of which the first one is cut.
func full(size int) Batch {
	l := slices.Repeat([]api.Write{put("", longValue)}, 280)
	l[0].Value = longValue[len(raw(0, 280, l...))-size:]
	return batch(0, l...)
}

const most = api.MaxBatch

func TestP602PutBatchLong(t *testing.T) {
	b, more := full(most), full(most+1)
	for _, c := range []struct {
		what string
		b    Batch
		size int
		e    api.Errno
	}{
		{"one less", full(most - 1), most - 1, api.OK},
		{"just as many", b, most, api.OK},
		{"one more", more, 0, api.ErrLong},
		{"a small one more", batch(0, append(slices.Clone(b.Writes), del(""))...), 0, api.ErrLong},
		{"a longer First", batch(128, b.Writes...), 0, api.ErrLong},
		{"many more", batch(0, append(slices.Clone(b.Writes), b.Writes...)...), 0, api.ErrLong},
		// A write that can't be is told first, wherever it stands.
		{"many more, and a wrong one", batch(0, append(slices.Clone(more.Writes), wrong()[5])...), 0, api.ErrArg},
	} {
		got, e := PutBatch(c.b)
		if len(got) != c.size || e != c.e {
			t.Errorf("%s: %d bytes, %d; not %d, %d", c.what, len(got), e, c.size, c.e)
		}
		if e == api.OK && got != raw(c.b.First, uint64(len(c.b.Writes)), c.b.Writes...) {
			t.Errorf("%s: other bytes", c.what)
		}
	}
}

func TestP602PutBatchManyWrites(t *testing.T) {
	l := slices.Repeat([]api.Write{del("")}, api.MaxData+1)
	s, e := PutBatch(batch(1, l[1:]...))
	if b, f := GetBatch(s); e != api.OK || f != api.OK || !same(b, batch(1, l[1:]...)) {
		t.Errorf("just as many: %d, %d, %d writes", e, f, len(b.Writes))
	}
	// PutBatch has no bound of its own for how many there are, GetBatch has.
	s, e = PutBatch(batch(1, l...))
	if e != api.OK || len(s) != 4+3*len(l) {
		t.Errorf("one more: %d, %d bytes", e, len(s))
	}
	if b, e := GetBatch(s); e != api.ErrLong || !isNone(b) {
		t.Errorf("one more: %d, %d writes", e, len(b.Writes))
	}
}

func TestP602GetBatch(t *testing.T) {
	for _, want := range batches() {
		s, _ := PutBatch(want)
		if got, e := GetBatch(s); e != api.OK || !same(got, want) {
			t.Errorf("GetBatch(%.60q): %.60v, %d, not %.60v", s, got, e, want)
		}
		if got, e := GetBatch(s + "\x00"); e != api.ErrForm || !isNone(got) {
			t.Errorf("of a byte more than %.60q: %.60v, %d", s, got, e)
		}
	}
}

func TestP602GetBatchCut(t *testing.T) {
	for _, b := range batches() {
		s, _ := PutBatch(b)
		step := 1 + len(s)/500
		for n := 0; n < len(s); n += step {
			if got, e := GetBatch(s[:n]); e != api.ErrShort || !isNone(got) {
				t.Errorf("of %d bytes of %.60q: %.60v, %d", n, s, got, e)
			}
		}
	}
}

func TestP602GetBatchRefuses(t *testing.T) {
	value := api.Write{Key: "a", Value: "x", Del: true}
	for _, c := range []struct {
		what, s string
		e       api.Errno
	}{
		{"nothing", "", api.ErrShort},
		{"no write", "\x05\x00", api.ErrForm},
		{"no write, and more", "\x05\x00\x00\x00\x00", api.ErrForm},
		{"First of a group too many", "\x85\x00\x01\x00\x00\x00", api.ErrForm},
		{"a count of a group too many", "\x05\x81\x00\x00\x00\x00", api.ErrForm},
		{"a truth that is none", "\x05\x01\x02\x00\x00", api.ErrForm},
		{"a length of a group too many", "\x05\x01\x00\x80\x00\x00", api.ErrForm},
		{"a deletion with a value", raw(5, 1, value), api.ErrForm},
		{"one behind a good one", raw(5, 2, put("a", "b"), value), api.ErrForm},
		{"one ahead of a good one", raw(5, 2, value, put("a", "b")), api.ErrForm},
		{"a deletion with a value, cut", raw(5, 2, value), api.ErrShort},
		{"a deletion with a value, ahead of a long key", raw(5, 2, value, put(longKey+"k", "")), api.ErrLong},
		{"fewer writes than it says", raw(5, 3, put("a", "b"), put("c", "d")), api.ErrShort},
		{"more writes than it says", raw(5, 1, put("a", "b"), put("c", "d")), api.ErrForm},
		{"a long key", raw(5, 1, put(longKey+"k", "")), api.ErrLong},
		{"a long value", raw(5, 1, put("", longValue+"v")), api.ErrLong},
		{"as many writes as may be, none there", raw(5, api.MaxData), api.ErrShort},
		{"more writes than may be", raw(5, api.MaxData+1), api.ErrLong},
		{"as many as there are numbers", raw(5, math.MaxUint64), api.ErrLong},
	} {
		if got, e := GetBatch(c.s); e != c.e || !isNone(got) {
			t.Errorf("%s: %.60v, %d, not %d", c.what, got, e, c.e)
		}
	}
}

func TestP602GetBatchLong(t *testing.T) {
	lay := func(b Batch) string { return raw(b.First, uint64(len(b.Writes)), b.Writes...) }
	for _, c := range []struct {
		what, s string
		e       api.Errno
	}{
		{"just as many", lay(full(most)), api.OK},
		{"one more", lay(full(most + 1)), api.ErrForm},
		// The reader's errors come first.
		{"more, cut", lay(full(most + 100))[:most+99], api.ErrShort},
	} {
		got, e := GetBatch(c.s)
		if e != c.e || e != api.OK && !isNone(got) {
			t.Errorf("%s: %d, %d writes", c.what, e, len(got.Writes))
		}
		if e == api.OK && !same(got, full(len(c.s))) {
			t.Errorf("%s: other writes", c.what)
		}
	}
}

// inside tells whether one text stands in the memory of the other.
func inside(s, of string) bool {
	if s == "" || of == "" {
		return false
	}
	a, b := uintptr(unsafe.Pointer(unsafe.StringData(s))), uintptr(unsafe.Pointer(unsafe.StringData(of)))
	return b <= a && a < b+uintptr(len(of))
}

func TestP602NewMemory(t *testing.T) {
	room := make([]api.Write, 3)
	room[0], room[1], room[2] = put("a", "1"), del("b"), put("c", "3")
	before := slices.Clone(room)
	s, _ := PutBatch(batch(5, room[:2]...))
	if !slices.Equal(room, before) {
		t.Errorf("changed: %v", room)
	}
	x, _ := GetBatch(s)
	y, _ := GetBatch(s)
	x.Writes[0] = put("z", "z")
	if !slices.Equal(y.Writes, before[:2]) {
		t.Errorf("two answers share memory: %v", y)
	}
	for _, w := range y.Writes {
		if inside(w.Key, s) || inside(w.Value, s) {
			t.Errorf("%v stands in what was handed in", w)
		}
	}
}
