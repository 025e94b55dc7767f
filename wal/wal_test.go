package wal

import (
	"math"
	"slices"
	"strings"
	"testing"

	"cornucopia/api"
	"cornucopia/file"
	"cornucopia/sum"
)

// frame is what a log adds for a batch.
func frame(first uint64, l ...api.Write) string {
	return sum.Frame(raw(first, uint64(len(l)), l...))
}

func read(t *testing.T, f *file.System, num int) string {
	t.Helper()
	s, e := f.Read(Name(num))
	if e != api.OK {
		t.Fatalf("Read: %d", e)
	}
	return s
}

func create(t *testing.T, f *file.System, num int) *Log {
	t.Helper()
	w, e := Create(f, num)
	if w == nil || e != api.OK {
		t.Fatalf("Create: %v, %d", w, e)
	}
	return w
}

// is holds errors, in their order, against those that are wanted.
func is(t *testing.T, what string, got []api.Errno, want ...api.Errno) {
	t.Helper()
	if !slices.Equal(got, want) {
		t.Errorf("%s: %v, not %v", what, got, want)
	}
}

// tells holds what Replay tells against some batches.
func tells(t *testing.T, what string, f *file.System, num int, want ...Batch) {
	t.Helper()
	got, e := Replay(f, num)
	if e != api.OK || !slices.EqualFunc(got, want, same) {
		t.Errorf("%s: %.200v, %d, not %.200v", what, got, e, want)
	}
}

func TestP603Create(t *testing.T) {
	f := file.New(0)
	for _, num := range []int{0, 7, 99_999_999} {
		steps := f.Steps()
		w := create(t, f, num)
		if w.Num() != num || w.Size() != 0 || f.Steps() != steps+2 {
			t.Errorf("%d: Num %d, Size %d, %d steps", num, w.Num(), w.Size(), f.Steps()-steps)
		}
		if s := read(t, f, num); s != "" {
			t.Errorf("%d: not empty: %q", num, s)
		}
		tells(t, "an empty log", f, num)
	}
	// Its name lasts.
	f.Crash(0)
	f.Restore()
	if got := Segments(f); !slices.Equal(got, []int{0, 7, 99_999_999}) {
		t.Errorf("behind a crash: %v", got)
	}
}

func TestP603CreateRefuses(t *testing.T) {
	f := file.New(0)
	for _, num := range []int{-1, 100_000_000, 100_000_007, -99_999_999, math.MaxInt, math.MinInt} {
		if w, e := Create(f, num); w != nil || e != api.ErrArg {
			t.Errorf("%d: %v, %d", num, w, e)
		}
		if w, e := Create(nil, num); w != nil || e != api.ErrArg {
			t.Errorf("%d without files: %v, %d", num, w, e)
		}
	}
	if f.Steps() != 0 || len(f.Names()) != 0 {
		t.Errorf("a wrong number was tried: %d steps, %q", f.Steps(), f.Names())
	}
	create(t, f, 5)
	f.Append(Name(5), "x")
	steps := f.Steps()
	if w, e := Create(f, 5); w != nil || e != api.ErrDup {
		t.Errorf("once more: %v, %d", w, e)
	}
	if s := read(t, f, 5); s != "x" || f.Steps() != steps+1 {
		t.Errorf("once more: %q, %d steps", s, f.Steps()-steps)
	}
	for _, f := range []*file.System{nil, {}} {
		if w, e := Create(f, 5); w != nil || e != api.ErrOff {
			t.Errorf("without power: %v, %d", w, e)
		}
	}
}

func TestP603CreateFails(t *testing.T) {
	for n, want := range []api.Errno{api.ErrOff, api.ErrOff, api.OK} {
		f := file.New(0)
		f.Fuse(n)
		if w, e := Create(f, 1); (w != nil) != (want == api.OK) || e != want {
			t.Errorf("power for %d: %v, %d", n, w, e)
		}
	}
	f := file.New(0)
	f.Bad(0)
	if w, e := Create(f, 1); w != nil || e != api.ErrIO {
		t.Errorf("a bad sync: %v, %d", w, e)
	}
}

func TestP603Add(t *testing.T) {
	f := file.New(0)
	w, other := create(t, f, 7), create(t, f, 8)
	want := ""
	for i, b := range batches() {
		steps := f.Steps()
		if e := w.Add(b.First, b.Writes...); e != api.OK {
			t.Errorf("%d: %d", i, e)
		}
		want += frame(b.First, b.Writes...)
		if got := read(t, f, 7); got != want || w.Size() != len(want) || w.Num() != 7 || f.Steps() != steps+1 {
			t.Errorf("%d: %.60q, Size %d, Num %d, %d steps", i, got, w.Size(), w.Num(), f.Steps()-steps)
		}
	}
	tells(t, "all", f, 7, batches()...)
	if read(t, f, 8) != "" || other.Size() != 0 {
		t.Errorf("another log has something")
	}
	is(t, "the other log", []api.Errno{other.Add(1, del("a"))}, api.OK)
	if read(t, f, 7) != want || read(t, f, 8) != frame(1, del("a")) || w.Size() != len(want) || other.Size() != 13+1 {
		t.Errorf("Sizes %d, %d", w.Size(), other.Size())
	}
}

func TestP603AddRefuses(t *testing.T) {
	f := file.New(0)
	w := create(t, f, 1)
	w.Add(1, put("a", "1"))
	steps := f.Steps()
	got := []api.Errno{w.Add(2), w.Add(2, []api.Write{}...), w.Add(0, full(most+1).Writes...)}
	want := []api.Errno{api.ErrArg, api.ErrArg, api.ErrLong}
	for _, x := range wrong() {
		got, want = append(got, w.Add(2, put("b", "2"), x)), append(want, api.ErrArg)
	}
	is(t, "refused", got, want...)
	if f.Steps() != steps || w.Size() != 15 {
		t.Errorf("%d steps, Size %d", f.Steps()-steps, w.Size())
	}
	is(t, "it goes on", []api.Errno{w.Add(2, put("b", "2")), w.Sync()}, api.OK, api.OK)
	tells(t, "it goes on", f, 1, batch(1, put("a", "1")), batch(2, put("b", "2")))
}

func TestP603AddMost(t *testing.T) {
	f := file.New(0)
	w := create(t, f, 1)
	b := full(most)
	is(t, "as long as may be", []api.Errno{w.Add(0, b.Writes...), w.Add(9, del("a"))}, api.OK, api.OK)
	tells(t, "as long as may be", f, 1, b, batch(9, del("a")))
}

func TestP603Full(t *testing.T) {
	f := file.New(40)
	w := create(t, f, 1)
	is(t, "till it is full", []api.Errno{
		w.Add(1, put("a", "1")),
		w.Add(2, put("b", strings.Repeat("z", 12))), // 26 bytes: one too many
		w.Sync(),
		w.Add(2, put("b", strings.Repeat("z", 11))),
		w.Add(3, del("")),
		w.Sync(),
		w.Add(3),
		w.Add(3, put("a", "")),
		w.Sync(),
	}, api.OK, api.ErrFull, api.OK, api.OK, api.ErrFull, api.OK, api.ErrArg, api.ErrFull, api.OK)
	if w.Size() != 40 || f.Used() != 40 {
		t.Errorf("Size %d, Used %d", w.Size(), f.Used())
	}
	tells(t, "full", f, 1, batch(1, put("a", "1")), batch(2, put("b", strings.Repeat("z", 11))))
}

// broken holds a log that is broken against what it must then do: nothing.
func broken(t *testing.T, what string, f *file.System, w *Log, num, size int) {
	t.Helper()
	steps := f.Steps()
	is(t, what, []api.Errno{w.Add(9, put("x", "y")), w.Sync(), w.Add(9), w.Add(0, wrong()...), w.Add(9, del("x")), w.Sync()},
		api.ErrRead, api.ErrRead, api.ErrRead, api.ErrRead, api.ErrRead, api.ErrRead)
	if w.Num() != num || w.Size() != size || f.Steps() != steps {
		t.Errorf("%s: Num %d, Size %d, %d steps", what, w.Num(), w.Size(), f.Steps()-steps)
	}
}

func TestP603SyncFails(t *testing.T) {
	f := file.New(0)
	w := create(t, f, 6)
	w.Add(1, put("a", "1"))
	f.Bad(0)
	is(t, "a bad sync", []api.Errno{w.Sync()}, api.ErrIO)
	broken(t, "behind a bad sync", f, w, 6, 15)
	tells(t, "behind a bad sync", f, 6, batch(1, put("a", "1")))
	f.Crash(0)
	f.Restore()
	broken(t, "behind a crash", f, w, 6, 15)
	tells(t, "nothing was synced", f, 6)
}

func TestP603PowerFails(t *testing.T) {
	a := batch(1, put("a", "1"))
	for _, c := range []struct {
		what string
		fail func(f *file.System, w *Log) api.Errno
		want []Batch // with all bytes that are there kept
	}{
		{"at an Add", func(f *file.System, w *Log) api.Errno { f.Fuse(0); return w.Add(2, del("b")) }, []Batch{a, batch(2, del("b"))}},
		{"at a Sync", func(f *file.System, w *Log) api.Errno { f.Fuse(0); return w.Sync() }, []Batch{a}},
		{"ahead of an Add", func(f *file.System, w *Log) api.Errno { f.Fuse(0); f.Create("x"); return w.Add(2, del("b")) }, []Batch{a}},
		{"ahead of a Sync", func(f *file.System, w *Log) api.Errno { f.Fuse(0); f.Create("x"); return w.Sync() }, []Batch{a}},
	} {
		f := file.New(0)
		w := create(t, f, 3)
		w.Add(a.First, a.Writes...)
		is(t, c.what, []api.Errno{c.fail(f, w)}, api.ErrOff)
		broken(t, c.what, f, w, 3, 15)
		f.Crash(0, -1)
		f.Restore()
		broken(t, c.what+", with power again", f, w, 3, 15)
		tells(t, c.what, f, 3, c.want...)
	}
}

func TestP603FileIsGone(t *testing.T) {
	for i, call := range []func(w *Log) api.Errno{
		func(w *Log) api.Errno { return w.Add(2, put("b", "2")) },
		func(w *Log) api.Errno { return w.Sync() },
	} {
		f := file.New(0)
		w := create(t, f, 4)
		w.Add(1, put("a", "1"))
		f.Remove(Name(4))
		is(t, "gone", []api.Errno{w.Add(2), call(w)}, api.ErrArg, api.ErrNone)
		broken(t, "gone", f, w, 4, 15)
		if got := Segments(f); len(got) != 0 {
			t.Errorf("%d: %v", i, got)
		}
	}
}

func TestP603Sync(t *testing.T) {
	f := file.New(0)
	w := create(t, f, 1)
	steps := f.Steps()
	is(t, "of an empty log", []api.Errno{w.Sync()}, api.OK)
	w.Add(1, put("a", "1"))
	w.Sync()
	w.Add(2, put("b", "2"))
	if f.Steps() != steps+4 {
		t.Errorf("%d steps", f.Steps()-steps)
	}
	f.Crash(0)
	f.Restore()
	tells(t, "synced", f, 1, batch(1, put("a", "1")))
	// The log goes on, if it has not met the failure.
	is(t, "behind a crash", []api.Errno{w.Add(3, del("c")), w.Sync()}, api.OK, api.OK)
	tells(t, "behind a crash", f, 1, batch(1, put("a", "1")), batch(3, del("c")))
}

func TestP604Replay(t *testing.T) {
	a, b := frame(1, put("a", "1")), frame(2, del("b"))
	one, two := batch(1, put("a", "1")), batch(2, del("b"))
	spoilt := []byte(b)
	spoilt[len(spoilt)-2] ^= 1
	for _, c := range []struct {
		what, s string
		want    []Batch
	}{
		{"nothing", "", nil},
		{"whole", a + b, []Batch{one, two}},
		{"twice", a + a, []Batch{one, one}},
		{"out of order", b + a, []Batch{two, one}},
		{"cut", a + b[:len(b)-1], []Batch{one}},
		{"cut at the front", a[1:] + b, nil},
		{"spoilt", a + string(spoilt) + a, []Batch{one}},
		{"an empty record", a + sum.Frame("") + b, []Batch{one}},
		{"another thing", a + sum.Frame("x") + b, []Batch{one}},
		{"no write", a + frame(9) + b, []Batch{one}},
		{"a batch and more", a + sum.Frame("\x01\x01\x01\x00\x00\x00") + b, []Batch{one}},
		{"a deletion with a value", a + b + frame(9, api.Write{Value: "x", Del: true}) + b, []Batch{one, two}},
		{"refused at once", frame(9) + a, nil},
		{"other bytes", a + b + "other", []Batch{one, two}},
		{"more writes than may be", a + frame(9, slices.Repeat([]api.Write{del("")}, api.MaxData+1)...) + b, []Batch{one}},
	} {
		f := file.New(0)
		f.Create(Name(12))
		f.Append(Name(12), c.s)
		steps := f.Steps()
		tells(t, c.what, f, 12, c.want...)
		if f.Steps() != steps || read(t, f, 12) != c.s {
			t.Errorf("%s: it changed something", c.what)
		}
	}
}

func TestP604ReplayRefuses(t *testing.T) {
	f := file.New(0)
	w := create(t, f, 1)
	w.Add(1, put("a", "1"))
	f.Create("w1")
	for _, c := range []struct {
		what string
		f    *file.System
		num  int
		e    api.Errno
	}{
		{"another number", f, 2, api.ErrNone},
		{"below 0", f, -1, api.ErrNone},
		{"the greatest int", f, math.MaxInt, api.ErrNone},
		{"none", nil, 1, api.ErrOff},
		{"a zero one", &file.System{}, 1, api.ErrOff},
	} {
		if l, e := Replay(c.f, c.num); len(l) != 0 || e != c.e {
			t.Errorf("%s: %v, %d", c.what, l, e)
		}
	}
	// A number has the name that Name gives it.
	tells(t, "modulo", f, 100_000_001, batch(1, put("a", "1")))
	tells(t, "modulo, below 0", f, -99_999_999, batch(1, put("a", "1")))
	f.Crash(0)
	if l, e := Replay(f, 1); len(l) != 0 || e != api.ErrOff {
		t.Errorf("without power: %v, %d", l, e)
	}
}

func TestP604NewMemory(t *testing.T) {
	f := file.New(0)
	w := create(t, f, 1)
	l := []api.Write{put("a", "1"), del("b")}
	w.Add(1, l...)
	l[0] = put("z", "z")
	w.Add(2, l[1:]...)
	want := []Batch{batch(1, put("a", "1"), del("b")), batch(2, del("b"))}
	got, _ := Replay(f, 1)
	got[0].Writes[0], got[1] = put("y", "y"), Batch{}
	tells(t, "behind a change of what was told", f, 1, want...)
}

func TestP605Example(t *testing.T) {
	f := file.New(0)
	w := create(t, f, 7)
	is(t, "Add", []api.Errno{w.Add(1, put("a", "1")), w.Add(2, put("b", "2"))}, api.OK, api.OK)
	if got := f.Names(); !slices.Equal(got, []string{"w00000007"}) || w.Size() != 30 {
		t.Errorf("%q, Size %d", got, w.Size())
	}
	f.Crash(0, 29)
	f.Restore()
	tells(t, "one byte fewer", f, 7, batch(1, put("a", "1")))
}

func TestP605NoLog(t *testing.T) {
	var none *Log
	var zero Log
	for _, w := range []*Log{none, &zero} {
		is(t, "no log", []api.Errno{w.Add(1, put("a", "")), w.Add(1), w.Add(1, wrong()...), w.Sync()}, api.ErrArg, api.ErrArg, api.ErrArg, api.ErrArg)
		if w.Num() != 0 || w.Size() != 0 {
			t.Errorf("Num %d, Size %d", w.Num(), w.Size())
		}
	}
	if zero != (Log{}) {
		t.Errorf("it changed: %v", zero)
	}
}

// script adds batches of one, two and more writes to a log, and syncs it after some; it tells how many were synced, and how many may be there.
func script(w *Log) (synced, begun int) {
	for i, sync := range []bool{false, true, false, false, true, false} {
		e := w.Add(uint64(i+1), story()[i].Writes...)
		if e == api.OK || e == api.ErrOff {
			begun = i + 1
		}
		if e != api.OK {
			return synced, begun
		}
		if sync && w.Sync() == api.OK {
			synced = i + 1
		}
	}
	return synced, begun
}

// story is the batches of the script.
func story() []Batch {
	return []Batch{
		batch(1, put("a", "1")),
		batch(2, put("a", "2"), del("b")),
		batch(3, del("a"), put("c", ""), put("", "long enough")),
		batch(4, put("d", "\x00\x00\x00\x00")),
		batch(5, del("d"), del("d")),
		batch(6, put("e", "6")),
	}
}

// behind lets f crash in each way, and holds what Replay tells then against what was done.
func behind(t *testing.T, what string, f *file.System, synced, begun int) {
	t.Helper()
	for keep := range f.Used() + 1 {
		g := f.Twin()
		g.Crash(0, keep)
		g.Restore()
		l, e := Replay(g, 1)
		if e != api.OK || len(l) < synced || len(l) > begun || !slices.EqualFunc(l, story()[:len(l)], same) {
			t.Errorf("%s, keep %d: %v, %d, with %d synced, %d begun", what, keep, l, e, synced, begun)
		}
	}
}

func TestP605PowerFailsAnywhere(t *testing.T) {
	for n := range 10 {
		f := file.New(0)
		w := create(t, f, 1)
		f.Fuse(n)
		synced, begun := script(w)
		behind(t, "power for "+string(rune('0'+n)), f, synced, begun)
	}
}

func TestP605SyncFails(t *testing.T) {
	for n := range 3 {
		f := file.New(0)
		w := create(t, f, 1)
		f.Bad(n)
		synced, begun := script(w)
		if want := []int{0, 2, 5}[n]; synced != want {
			t.Errorf("a bad sync behind %d: %d synced", n, synced)
		}
		behind(t, "a bad sync behind "+string(rune('0'+n)), f, synced, begun)
	}
}

func TestP605RoomEnds(t *testing.T) {
	for room := range 120 {
		f := file.New(room)
		w := create(t, f, 1)
		synced, begun := script(w)
		if f.Used() != w.Size() {
			t.Errorf("room %d: Used %d, Size %d", room, f.Used(), w.Size())
		}
		behind(t, "room "+Name(room), f, synced, begun)
	}
}

func TestP605FullAndOn(t *testing.T) {
	// What had no room is not there, nor a piece of it: what comes behind it is.
	f := file.New(60)
	w := create(t, f, 1)
	is(t, "Add", []api.Errno{
		w.Add(1, put("a", "1")),
		w.Add(2, put("b", longValue)),
		w.Add(3, put("c", "3")),
		w.Sync(),
	}, api.OK, api.ErrFull, api.OK, api.OK)
	f.Crash(0)
	f.Restore()
	tells(t, "full, and on", f, 1, batch(1, put("a", "1")), batch(3, put("c", "3")))
}
