package file

import (
	"fmt"
	"math"
	"slices"
	"strings"
	"testing"
	"unsafe"

	"cornucopia/api"
)

// is holds what was answered against what is wanted, by their texts: lists that are nil and empty are one.
func is(t *testing.T, what string, got, want any) {
	t.Helper()
	if g, w := fmt.Sprintf("%q", got), fmt.Sprintf("%q", want); g != w {
		t.Errorf("%s: %s, not %s", what, g, w)
	}
}

// errs holds several answers against what is wanted.
func errs(t *testing.T, what string, got []api.Errno, want ...api.Errno) {
	t.Helper()
	if !slices.Equal(got, want) {
		t.Errorf("%s: %d, not %d", what, got, want)
	}
}

func list(l ...api.Errno) []api.Errno { return l }

// must does what has to be well.
func must(t *testing.T, l ...api.Errno) {
	t.Helper()
	for i, e := range l {
		if e != api.OK {
			t.Fatalf("call %d: error %d", i, e)
		}
	}
}

// all tells the names, each with its bytes.
func all(f *System) []string {
	l := []string{}
	for _, name := range f.Names() {
		s, e := f.Read(name)
		if e != api.OK {
			s = fmt.Sprint("error ", e)
		}
		l = append(l, name+"="+s)
	}
	return l
}

// after tells the files behind a crash of a twin.
func after(f *System, dir int, keep ...int) []string {
	g := f.Twin()
	g.Crash(dir, keep...)
	g.Restore()
	return all(g)
}

func file1(t *testing.T, room int) *System {
	t.Helper()
	f := New(room)
	must(t, f.Create("a"), f.Append("a", "one"), f.Sync("a"), f.SyncDir())
	return f
}

func TestP401New(t *testing.T) {
	for _, room := range []int{0, 1, 5, -1, math.MinInt, math.MaxInt} {
		f := New(room)
		is(t, "Names", f.Names(), []string{})
		if !f.On() || f.Used() != 0 || f.Steps() != 0 {
			t.Errorf("New(%d): %v, %d bytes, %d steps", room, f.On(), f.Used(), f.Steps())
		}
		// No fuse and no bad sync.
		must(t, f.Create("a"), f.Append("a", "1"), f.Sync("a"), f.SyncDir())
	}
}

func TestP401Room(t *testing.T) {
	f := New(5)
	must(t, f.Create("a"), f.Create("b"), f.Append("a", "123"))
	errs(t, "one too many", list(f.Append("b", "456"), f.Append("a", "456")), api.ErrFull, api.ErrFull)
	is(t, "nothing has changed", all(f), []string{"a=123", "b="})
	must(t, f.Append("b", "45"), f.Append("b", ""), f.Append("a", ""))
	errs(t, "full", list(f.Append("b", "6"), f.Append("z", "6")), api.ErrFull, api.ErrNone)
	is(t, "just as many", all(f), []string{"a=123", "b=45"})
	must(t, f.Rename("a", "b"), f.Append("b", "45"))
	errs(t, "full again", list(f.Append("b", "6")), api.ErrFull)
	must(t, f.Remove("b"), f.Create("c"), f.Append("c", "12345"))
	is(t, "what is gone has no room", all(f), []string{"c=12345"})
	big := strings.Repeat("x", 1<<20)
	for _, room := range []int{0, -1, -5, math.MinInt, math.MaxInt} {
		f := New(room)
		must(t, f.Create("a"), f.Append("a", big), f.Append("a", big))
		if f.Used() != 2<<20 {
			t.Errorf("room %d: %d bytes", room, f.Used())
		}
	}
}

// A crash may bring back a file that was taken away: then there may be more than the room.
func TestP402FullBehindCrash(t *testing.T) {
	f := file1(t, 5)
	must(t, f.Create("b"), f.Append("b", "12"), f.Remove("a"), f.Append("b", "345"))
	f.Crash(1, 0, 5)
	f.Restore()
	is(t, "more than the room", all(f), []string{"a=one", "b=12345"})
	errs(t, "Append", list(f.Append("a", "x"), f.Append("a", "")), api.ErrFull, api.ErrFull)
	must(t, f.Remove("b"), f.Append("a", "12"))
}

func TestP401Steps(t *testing.T) {
	f := New(1)
	for i, call := range []func(){
		func() { f.Create("a") }, func() { f.Create("") }, func() { f.Create("a") },
		func() { f.Append("a", "1") }, func() { f.Append("a", "2") }, func() { f.Append("z", "1") },
		func() { f.Sync("a") }, func() { f.Sync("z") }, func() { f.SyncDir() },
		func() { f.Rename("a", "b") }, func() { f.Rename("b", "b") }, func() { f.Rename("b", "") }, func() { f.Rename("z", "b") },
		func() { f.Remove("b") }, func() { f.Remove("b") },
	} {
		call()
		if f.Steps() != i+1 {
			t.Errorf("behind operation %d: %d steps", i+1, f.Steps())
		}
	}
	f.Create("a")
	n := f.Steps()
	f.Read("a")
	f.Read("z")
	f.Names()
	f.Used()
	f.On()
	f.Fuse(7)
	f.Bad(7)
	f.Twin()
	f.Crash(0)
	f.Create("a")
	f.Sync("a")
	f.SyncDir()
	f.Restore()
	if f.Steps() != n {
		t.Errorf("what is no operation counts: %d, not %d", f.Steps(), n)
	}
	f.Bad(0)
	f.Sync("a")
	f.Fuse(0)
	f.Create("a")
	f.Create("a")
	if f.Steps() != n+2 {
		t.Errorf("a bad sync, and one at which the power fails: %d, not %d", f.Steps(), n+2)
	}
}

// operations are one of each kind that is done, and of each that is refused, behind a file a that is there.
func operations() []struct {
	what string
	do   func(f *System) api.Errno
	e    api.Errno
	sync bool
	all  []string // what is there if it is done, or if the power fails at it
} {
	long := strings.Repeat("x", maxName+1)
	same := []string{"a=one"}
	return []struct {
		what string
		do   func(f *System) api.Errno
		e    api.Errno
		sync bool
		all  []string
	}{
		{"Create", func(f *System) api.Errno { return f.Create("b") }, api.OK, false, []string{"a=one", "b="}},
		{"Create of none", func(f *System) api.Errno { return f.Create("") }, api.ErrArg, false, same},
		{"Create of a long one", func(f *System) api.Errno { return f.Create(long) }, api.ErrArg, false, same},
		{"Create again", func(f *System) api.Errno { return f.Create("a") }, api.ErrDup, false, same},
		{"Append", func(f *System) api.Errno { return f.Append("a", "+") }, api.OK, false, []string{"a=one+"}},
		{"Append of none", func(f *System) api.Errno { return f.Append("b", "+") }, api.ErrNone, false, same},
		{"Append of much", func(f *System) api.Errno { return f.Append("a", "++++") }, api.ErrFull, false, same},
		{"Sync", func(f *System) api.Errno { return f.Sync("a") }, api.OK, true, same},
		{"Sync of none", func(f *System) api.Errno { return f.Sync("b") }, api.ErrNone, true, same},
		{"SyncDir", func(f *System) api.Errno { return f.SyncDir() }, api.OK, true, same},
		{"Rename", func(f *System) api.Errno { return f.Rename("a", "b") }, api.OK, false, []string{"b=one"}},
		{"Rename of none", func(f *System) api.Errno { return f.Rename("b", "") }, api.ErrNone, false, same},
		{"Rename to none", func(f *System) api.Errno { return f.Rename("a", "") }, api.ErrArg, false, same},
		{"Rename to itself", func(f *System) api.Errno { return f.Rename("a", "a") }, api.OK, false, same},
		{"Remove", func(f *System) api.Errno { return f.Remove("a") }, api.OK, false, []string{}},
		{"Remove of none", func(f *System) api.Errno { return f.Remove("b") }, api.ErrNone, false, same},
	}
}

func TestP401FuseOfEachOperation(t *testing.T) {
	for _, c := range operations() {
		f := file1(t, 5)
		errs(t, c.what, list(c.do(f)), c.e)
		is(t, c.what, all(f), c.all)

		f = file1(t, 5)
		f.Fuse(0)
		errs(t, c.what+" at the fuse", list(c.do(f)), api.ErrOff)
		if f.On() {
			t.Errorf("%s at the fuse: there is power", c.what)
		}
		f.Restore()
		is(t, c.what+" at the fuse", all(f), c.all)
		f.Crash(0, 0)
		f.Restore()
		is(t, c.what+" is not there for good", all(f), []string{"a=one"})

		f = file1(t, 5)
		f.Fuse(0)
		c.do(f)
		f.Crash(-1, -1, -1)
		f.Restore()
		is(t, c.what+" may be there for good", all(f), c.all)
	}
}

func TestP401FuseOfSyncs(t *testing.T) {
	f := file1(t, 0)
	must(t, f.Append("a", "+"), f.Create("b"))
	f.Fuse(0)
	errs(t, "Sync", list(f.Sync("a")), api.ErrOff)
	f.Restore()
	f.Fuse(0)
	errs(t, "SyncDir", list(f.SyncDir()), api.ErrOff)
	f.Restore()
	is(t, "none is done", after(f, 0), []string{"a=one"})
	must(t, f.Sync("a"), f.SyncDir())
	is(t, "both are done", after(f, 0), []string{"a=one+", "b="})
}

func TestP401FuseCounts(t *testing.T) {
	for n := range 20 {
		f := New(0)
		f.Create("a")
		f.Fuse(n)
		for i := range n {
			// Each is an operation, also one that answers an error; what is none does not count.
			f.Read("a")
			f.Names()
			f.Used()
			f.Steps()
			if e := f.Create("a"); e != api.ErrDup || !f.On() {
				t.Fatalf("Fuse(%d): operation %d: error %d, power %v", n, i, e, f.On())
			}
		}
		errs(t, "at it, and behind it", list(f.Append("a", "x"), f.Append("a", "y")), api.ErrOff, api.ErrOff)
		f.Restore()
		is(t, "at it", all(f), []string{"a=x"})
		for range 3 {
			must(t, f.Append("a", "z"))
		}
	}
}

func TestP401FuseAgain(t *testing.T) {
	f := New(0)
	f.Fuse(1)
	f.Fuse(2)
	must(t, f.Create("a"), f.Create("b"))
	errs(t, "the last one holds", list(f.Create("c")), api.ErrOff)
	f.Restore()
	for _, n := range []int{-1, -2, math.MinInt, math.MaxInt} {
		f.Fuse(0)
		f.Fuse(n)
		must(t, f.Sync("a"), f.Sync("a"), f.Sync("a"))
	}
	f.Crash(0)
	f.Fuse(1)
	f.Create("d")
	f.Create("e")
	f.Restore()
	must(t, f.Create("d"))
	errs(t, "set without power, counted with it", list(f.Create("e"), f.Create("g")), api.ErrOff, api.ErrOff)
}

func TestP401Bad(t *testing.T) {
	f := file1(t, 0)
	must(t, f.Append("a", "+"), f.Create("b"), f.Append("b", "bee"))
	f.Bad(0)
	errs(t, "Sync", list(f.Sync("a"), f.Sync("b")), api.ErrIO, api.OK)
	f.Bad(0)
	errs(t, "SyncDir", list(f.SyncDir()), api.ErrIO)
	is(t, "syncs nothing", after(f, 0), []string{"a=one"})
	is(t, "all is pending as it was", after(f, 1), []string{"a=one", "b=bee"})
	is(t, "all is there as it was", all(f), []string{"a=one+", "b=bee"})
	must(t, f.Sync("a"), f.SyncDir())
	is(t, "what went off is gone", after(f, 0), []string{"a=one+", "b=bee"})

	f.Bad(3)
	errs(t, "those of both kinds count, those that are refused too, others don't",
		list(f.Append("a", "x"), f.Sync("a"), f.Sync("none"), f.Create("c"), f.SyncDir(), f.Append("a", "y"), f.Sync("a"), f.Sync("a")),
		api.OK, api.OK, api.ErrNone, api.OK, api.OK, api.OK, api.ErrIO, api.OK)
	f.Bad(0)
	errs(t, "of a file that is not there", list(f.Sync("none"), f.Sync("none")), api.ErrIO, api.ErrNone)
	for _, n := range []int{-1, -2, math.MinInt, math.MaxInt} {
		f.Bad(0)
		f.Bad(n)
		must(t, f.Sync("a"), f.SyncDir(), f.Sync("a"))
	}
}

func TestP401BadAndFuse(t *testing.T) {
	f := file1(t, 0)
	f.Bad(1)
	f.Fuse(0)
	errs(t, "the fuse", list(f.Sync("a"), f.Sync("a")), api.ErrOff, api.ErrOff)
	f.Restore()
	errs(t, "the sync at the fuse counted, that without power did not", list(f.SyncDir(), f.Sync("a")), api.ErrIO, api.OK)
	f.Bad(0)
	f.Fuse(0)
	errs(t, "both at one", list(f.SyncDir()), api.ErrOff)
	f.Restore()
	must(t, f.SyncDir(), f.Sync("a"))
	f.Bad(0)
	f.Fuse(1)
	errs(t, "a bad one counts for the fuse", list(f.Sync("a"), f.Sync("a")), api.ErrIO, api.ErrOff)
	f.Bad(0)
	f.Restore()
	errs(t, "set without power", list(f.Append("a", "+"), f.SyncDir()), api.OK, api.ErrIO)
}

func TestP401WithoutPower(t *testing.T) {
	f := file1(t, 3)
	must(t, f.Remove("a"), f.Create("b"), f.Append("b", "bee"))
	f.Fuse(0)
	f.Sync("b")
	if f.On() || f.Used() != 3 || f.Steps() != 8 {
		t.Errorf("power %v, %d bytes, %d steps", f.On(), f.Used(), f.Steps())
	}
	errs(t, "operations", list(f.Create(""), f.Create("c"), f.Append("b", "+"), f.Append("z", "+"), f.Sync("b"), f.Sync("z"), f.SyncDir(), f.Rename("b", "c"), f.Rename("z", ""), f.Remove("b"), f.Remove("z")),
		slices.Repeat(list(api.ErrOff), 11)...)
	s, e := f.Read("b")
	is(t, "Read", s, "")
	errs(t, "Read", list(e), api.ErrOff)
	_, e = f.Read("z")
	errs(t, "Read", list(e), api.ErrOff)
	is(t, "Names", f.Names(), []string{})
	g := f.Twin()
	if g.On() || g.Used() != 3 || g.Steps() != 8 {
		t.Errorf("Twin: power %v, %d bytes, %d steps", g.On(), g.Used(), g.Steps())
	}
	f.Restore()
	is(t, "as it was", all(f), []string{"b=bee"})
	is(t, "nothing was synced", after(f, 0), []string{"a=one"})
	g.Crash(0)
	if g.On() || g.Used() != 3 {
		t.Errorf("Crash without power: power %v, %d bytes", g.On(), g.Used())
	}
	g.Restore()
	is(t, "Crash without power", all(g), []string{"a=one"})
}

func TestP402Create(t *testing.T) {
	f := New(0)
	odd := []string{"\x00", "\xff", strings.Repeat("\xff", 20), "a", "A", "aa", " ", "é"}
	for _, name := range odd {
		must(t, f.Create(name))
		errs(t, "again", list(f.Create(name)), api.ErrDup)
		s, e := f.Read(name)
		is(t, "empty", s, "")
		errs(t, "Read", list(e), api.OK)
	}
	errs(t, "lengths", list(f.Create(""), f.Create(strings.Repeat("x", 20)), f.Create(strings.Repeat("x", 21)), f.Create(strings.Repeat("é", 11)), f.Create(strings.Repeat("x", 5000))),
		api.ErrArg, api.OK, api.ErrArg, api.ErrArg, api.ErrArg)
	is(t, "the order of the bytes", f.Names(), []string{"\x00", " ", "A", "a", "aa", strings.Repeat("x", 20), "é", "\xff", strings.Repeat("\xff", 20)})
}

func TestP402AppendAndRead(t *testing.T) {
	f := New(0)
	must(t, f.Create("a"), f.Create("b"))
	want := ""
	for i := range 300 {
		s := strings.Repeat(string([]byte{byte(i)}), i%7)
		must(t, f.Append("a", s), f.Append("b", "-"))
		want += s
	}
	got, _ := f.Read("a")
	is(t, "a", got, want)
	got, _ = f.Read("b")
	is(t, "b", got, strings.Repeat("-", 300))
	if f.Used() != len(want)+300 {
		t.Errorf("Used: %d", f.Used())
	}
	for _, name := range []string{"", "c", "A", strings.Repeat("a", 21)} {
		s, e := f.Read(name)
		is(t, "Read", s, "")
		errs(t, name, list(e, f.Append(name, "x"), f.Append(name, ""), f.Sync(name), f.Remove(name), f.Rename(name, name), f.Rename(name, "a"), f.Rename(name, "")),
			slices.Repeat(list(api.ErrNone), 8)...)
	}
	is(t, "as it was", f.Names(), []string{"a", "b"})
}

func TestP402Rename(t *testing.T) {
	f := New(0)
	must(t, f.Create("a"), f.Append("a", "A"), f.Create("b"), f.Append("b", "BB"), f.SyncDir())
	errs(t, "wrong", list(f.Rename("z", ""), f.Rename("a", ""), f.Rename("a", strings.Repeat("x", 21)), f.Rename("z", "z")), api.ErrNone, api.ErrArg, api.ErrArg, api.ErrNone)
	must(t, f.Rename("a", "a"))
	is(t, "none is pending", after(f, 1, 1, 1), after(f, 0, 1, 1))
	is(t, "nothing", all(f), []string{"a=A", "b=BB"})
	must(t, f.Rename("a", strings.Repeat("x", 20)), f.Rename(strings.Repeat("x", 20), "c"))
	is(t, "another name", all(f), []string{"b=BB", "c=A"})
	must(t, f.Rename("c", "b"))
	is(t, "one that had it is gone", all(f), []string{"b=A"})
	if f.Used() != 1 {
		t.Errorf("Used: %d", f.Used())
	}
	must(t, f.Append("b", "+"), f.Create("a"), f.Create("c"))
	is(t, "the same file", all(f), []string{"a=", "b=A+", "c="})
	must(t, f.Remove("b"), f.Create("b"))
	is(t, "another file", all(f), []string{"a=", "b=", "c="})
}

func TestP402NotKept(t *testing.T) {
	f := New(0)
	text := "name, other, data"
	name, other, data := text[:4], text[6:11], text[13:]
	must(t, f.Create(name), f.Append(name, data), f.Rename(name, other), f.Create(name))
	names := f.Names()
	s, _ := f.Read(other)
	from := uintptr(unsafe.Pointer(unsafe.StringData(text)))
	for _, got := range append(names, s) {
		if at := uintptr(unsafe.Pointer(unsafe.StringData(got))); from <= at && at < from+uintptr(len(text)) {
			t.Errorf("%q is memory that was handed in", got)
		}
	}
	names[0] = "z"
	is(t, "Names stands by itself", f.Names(), []string{"name", "other"})
	keep := []int{1, 2, 3}
	f.Crash(-1, keep[:2]...)
	is(t, "keep", fmt.Sprint(keep), "[1 2 3]")
	f.Restore()
	is(t, "Read stands by itself", s, "data")
}

func TestP403Example(t *testing.T) {
	f := New(0)
	must(t, f.Create("a"), f.SyncDir(), f.Append("a", "xyz"), f.Rename("a", "b"))
	f.Crash(0, 2)
	f.Restore()
	is(t, "the chapter's", all(f), []string{"a=xy"})
}

// busy has four changes pending, of files with and without synced bytes.
func busy(t *testing.T) *System {
	t.Helper()
	f := file1(t, 0)
	must(t, f.Append("a", "12345"), f.Create("b"), f.Append("b", "bee"), f.Sync("b"), f.Append("b", "++"),
		f.Remove("a"), f.Rename("b", "c"), f.Create("a"), f.Append("a", "new"))
	return f
}

func TestP403Directory(t *testing.T) {
	f := busy(t)
	want := [][]string{{"a=one12345"}, {"a=one12345", "b=bee++"}, {"b=bee++"}, {"c=bee++"}, {"a=new", "c=bee++"}}
	for dir := -23; dir <= 23; dir++ {
		// -1 keeps all, whatever there is.
		is(t, fmt.Sprint("dir ", dir), after(f, dir, -1, -1), want[((dir%5)+5)%5])
	}
	// 2^63 - 1 is 2 modulo 5, and -2^63 is 2 as well.
	is(t, "the greatest dir", after(f, math.MaxInt, -1, -1), want[2])
	is(t, "the least dir", after(f, math.MinInt, -1, -1), want[2])
	f.Crash(1, -1, -1)
	f.Restore()
	for dir := range 4 {
		is(t, "nothing is pending behind a crash", after(f, dir), want[1])
	}
	must(t, f.Remove("a"))
	is(t, "but what was done since", after(f, 1), []string{"b=bee++"})
}

func TestP403Keep(t *testing.T) {
	f := busy(t)
	for keep := -40; keep <= 40; keep++ {
		six, three, four := ((keep%6)+6)%6, ((keep%3)+3)%3, ((keep%4)+4)%4
		is(t, "one", after(f, 0, keep), []string{"a=one" + "12345"[:six]})
		is(t, "two", after(f, 1, keep, keep+1), []string{"a=one" + "12345"[:six], "b=bee" + "++"[:(three+1)%3]})
		is(t, "in the order of the names", after(f, 4, keep, keep), []string{"a=" + "new"[:four], "c=bee" + "++"[:three]})
		is(t, "places lack", after(f, 4, keep), []string{"a=" + "new"[:four], "c=bee"})
		is(t, "more than places", after(f, 3, keep, 1, 1), []string{"c=bee" + "++"[:three]})
	}
	// 2^63 - 1 is 1 modulo 6, and -2^63 is 4.
	is(t, "the greatest keep", after(f, 0, math.MaxInt), []string{"a=one1"})
	is(t, "the least keep", after(f, 0, math.MinInt), []string{"a=one1234"})
	is(t, "none", after(f, 4), []string{"a=", "c=bee"})
	f.Crash(4, 2, 1)
	is(t, "all is synced", after(f, 0), []string{"a=ne", "c=bee+"})
	f.Restore()
	must(t, f.Append("a", "XYZ"))
	is(t, "goes on behind what stayed", after(f, 0, 3), []string{"a=neXYZ", "c=bee+"})
	is(t, "what was there at the crash is synced", after(f, 0), []string{"a=ne", "c=bee+"})
}

func TestP403FuseAndBadAreGone(t *testing.T) {
	f := file1(t, 0)
	f.Fuse(0)
	f.Bad(0)
	f.Crash(0)
	if f.On() {
		t.Error("there is power behind a crash")
	}
	f.Restore()
	if !f.On() {
		t.Error("there is no power behind Restore")
	}
	must(t, f.Sync("a"), f.SyncDir(), f.Append("a", "+"))
	f.Fuse(0)
	f.Bad(0)
	f.Restore()
	errs(t, "Restore leaves them", list(f.Append("a", "+")), api.ErrOff)
	f.Restore()
	errs(t, "Restore leaves them", list(f.SyncDir()), api.ErrIO)
}

func TestP403FollowsTheFile(t *testing.T) {
	f := file1(t, 0)
	// Synced under another name: the bytes are the file's, not the name's.
	must(t, f.Rename("a", "b"), f.Append("b", "+"), f.Sync("b"), f.Append("b", "-"))
	is(t, "under its old name", after(f, 0), []string{"a=one+"})
	is(t, "under its new one", after(f, 1, 1), []string{"b=one+-"})
	must(t, f.Create("a"), f.Append("a", "other"), f.Sync("a"), f.Rename("a", "b"))
	is(t, "ahead of being replaced", after(f, 2), []string{"a=other", "b=one+"})
	is(t, "replaced", after(f, 3), []string{"b=other"})
	is(t, "as at the last SyncDir", after(f, 0), []string{"a=one+"})
	must(t, f.Remove("b"))
	is(t, "removed, and back", after(f, 3), []string{"b=other"})
	must(t, f.SyncDir())
	is(t, "gone for good", after(f, 3), []string{})
}

func TestP404Twin(t *testing.T) {
	f := busy(t)
	g := f.Twin()
	ahead := all(f)
	is(t, "the same", all(g), ahead)
	must(t, g.Append("a", "!"), g.Append("c", "!"), g.Sync("c"), g.Create("d"), g.Remove("a"))
	is(t, "the first one stays", all(f), ahead)
	is(t, "the first one stays", after(f, 4), []string{"a=", "c=bee"})
	is(t, "the first one stays", after(f, 9, -1, -1), []string{"a=new", "c=bee++"})
	is(t, "a file is one under its names", after(g, 1, 0, 0), []string{"a=one", "b=bee++!"})
	g = f.Twin()
	must(t, f.Append("a", "?"), f.Append("c", "?"), f.Sync("c"), f.Rename("c", "a"), f.SyncDir(), f.Append("a", "?"))
	is(t, "the twin stays", all(g), ahead)
	is(t, "the twin stays", after(g, 0, 5), []string{"a=one12345"})
	is(t, "the twin stays", after(g, 1, 0, 0), []string{"a=one", "b=bee"})
	f.Crash(0)
	if !g.On() {
		t.Error("the twin has lost its power")
	}

	f = file1(t, 0)
	must(t, f.Append("a", "two"))
	g = f.Twin()
	f.Crash(0)
	f.Restore()
	must(t, f.Append("a", "six"))
	is(t, "what is written where a crash cut is not the twin's", all(g), []string{"a=onetwo"})

	f = file1(t, 5)
	f.Fuse(3)
	f.Bad(1)
	g, h := f.Twin(), f.Twin()
	for _, x := range []*System{f, g, h} {
		errs(t, "room, fuse and bad sync", list(x.Append("a", "+++"), x.Sync("a"), x.Sync("a"), x.Sync("a")), api.ErrFull, api.OK, api.ErrIO, api.ErrOff)
		if x.Steps() != 8 || x.On() {
			t.Errorf("%d steps, power %v", x.Steps(), x.On())
		}
	}
	if g = f.Twin(); g == f || g.On() || g.Steps() != 8 {
		t.Error("a twin without power is not the same")
	}
	g.Restore()
	if f.On() || !g.On() {
		t.Error("a twin without power does not stand by itself")
	}
}

func TestP404None(t *testing.T) {
	var none *System
	zero, crashed := &System{}, &System{}
	crashed.Crash(3, 1, 2)
	for i, f := range []*System{none, zero, crashed, none.Twin(), zero.Twin(), crashed.Twin()} {
		for range 2 {
			errs(t, fmt.Sprint("system ", i), list(f.Create("a"), f.Create(""), f.Append("a", "x"), f.Sync("a"), f.SyncDir(), f.Rename("a", "b"), f.Remove("a")), slices.Repeat(list(api.ErrOff), 7)...)
			s, e := f.Read("a")
			is(t, "Read", s, "")
			errs(t, "Read", list(e), api.ErrOff)
			is(t, "Names", f.Names(), []string{})
			if f.On() || f.Used() != 0 || f.Steps() != 0 {
				t.Errorf("system %d: power %v, %d bytes, %d steps", i, f.On(), f.Used(), f.Steps())
			}
			f.Restore()
			f.Fuse(2)
			f.Bad(-1)
			f.Bad(0)
			f.Crash(1, 2, 3)
			f.Fuse(0)
			f.Restore()
		}
	}
	if none.Twin() != nil {
		t.Error("none has a twin")
	}
	if g := zero.Twin(); g == nil || g == zero {
		t.Error("a zero one has no twin of its own")
	}
}
