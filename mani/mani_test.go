package mani

import (
	"encoding/binary"
	"hash/crc32"
	"math"
	"slices"
	"strings"
	"testing"

	"cornucopia/api"
	"cornucopia/edit"
	"cornucopia/file"
)

const first = "m00000001"

// frame is the frame of a record, by the words of its chapter.
func frame(l ...string) string {
	s := ""
	for _, r := range l {
		length := binary.BigEndian.AppendUint32(nil, uint32(len(r)))
		crc := crc32.Checksum(append(slices.Clone(length), r...), crc32.MakeTable(crc32.Castagnoli))
		s += string(binary.BigEndian.AppendUint32(length, crc)) + r
	}
	return s
}

// framed is the frame of each edit.
func framed(t *testing.T, l ...edit.Edit) string {
	t.Helper()
	s := ""
	for _, x := range l {
		b, e := edit.Put(x)
		if e != api.OK {
			t.Fatalf("Put: %d", e)
		}
		s += frame(b)
	}
	return s
}

func tab(num, level int, first, last string) api.Table {
	return api.Table{Num: num, Level: level, Size: 1, First: first, Last: last}
}

func tabs(l ...api.Table) []api.Table { return l }

var longKey = strings.Repeat("k", api.MaxKey)

// longTable has 610 bytes and some in an edit.
func longTable(num int) api.Table { return tab(num, 0, longKey, longKey) }

func sameVersion(a, b edit.Version) bool {
	return a.Log == b.Log && a.Next == b.Next && a.Seq == b.Seq && slices.Equal(a.Tables, b.Tables)
}

// begun is the version of a new manifest.
var begun = edit.Version{Log: 2, Next: 2}

func open(t *testing.T, f *file.System) *Manifest {
	t.Helper()
	m, v, e := Open(f)
	if e != api.OK || m == nil || !sameVersion(v, m.Version()) || m.Broken() {
		t.Fatalf("Open: %d, %v", e, v)
	}
	return m
}

// refused holds Open to an error.
func refused(t *testing.T, what string, f *file.System, want api.Errno) {
	t.Helper()
	if m, v, e := Open(f); m != nil || !sameVersion(v, edit.Version{}) || e != want {
		t.Errorf("%s: %v, %v, %d, not %d", what, m, v, e, want)
	}
}

func add(t *testing.T, m *Manifest, l ...edit.Edit) {
	t.Helper()
	for i, x := range l {
		if e := m.Add(x); e != api.OK {
			t.Fatalf("Add %d: %d", i, e)
		}
	}
}

// holds holds the files against those that are wanted: names and bytes, one behind the other, in order.
func holds(t *testing.T, what string, f *file.System, want ...string) {
	t.Helper()
	var got []string
	for _, name := range f.Names() {
		b, _ := f.Read(name)
		got = append(got, name, b)
	}
	if !slices.Equal(got, want) {
		t.Errorf("%s: %.400q, not %.400q", what, got, want)
	}
}

// lay makes files of names and bytes that last.
func lay(f *file.System, l ...string) *file.System {
	for i := 0; i < len(l); i += 2 {
		f.Remove(l[i])
		f.Create(l[i])
		f.Append(l[i], l[i+1])
		f.Sync(l[i])
	}
	f.SyncDir()
	return f
}

// crashed is f behind a failure of the power of which nothing stayed that need not.
func crashed(f *file.System) *file.System {
	g := f.Twin()
	g.Crash(0)
	g.Restore()
	return g
}

func TestP1301New(t *testing.T) {
	edits := framed(t, edit.Edit{Log: 2, Next: 2})
	if want := "\x00\x00\x00\x05"; edits[:4] != want || edits[8:] != "\x02\x02\x00\x00\x00" {
		t.Fatalf("%q", edits)
	}
	for _, c := range []struct {
		what  string
		f     *file.System
		steps int // Create, Append, Sync, SyncDir; Create, Append, Sync, Rename, SyncDir, and what is taken away ahead
	}{
		{"no files", file.New(0), 9},
		{"one begun", lay(file.New(0), first, "x"), 10},
		{"one to be switched to", lay(file.New(0), "CURRENT~", "x"), 10},
		{"both", lay(file.New(0), first, strings.Repeat("x", 30), "CURRENT~", "m00000007"), 11},
		{"just the room", file.New(len(edits) + 9), 9},
	} {
		steps := c.f.Steps()
		m, v, e := Open(c.f)
		if m == nil || e != api.OK || !sameVersion(v, begun) || !sameVersion(m.Version(), begun) || m.Name() != first || m.Broken() {
			t.Errorf("%s: %v, %d", c.what, v, e)
		}
		if n := c.f.Steps() - steps; n != c.steps {
			t.Errorf("%s: %d steps, not %d", c.what, n, c.steps)
		}
		holds(t, c.what, c.f, "CURRENT", first, first, edits)
		holds(t, c.what+", behind a crash", crashed(c.f), "CURRENT", first, first, edits)
	}
}

func TestP1301NewBesideOthers(t *testing.T) {
	// Nothing but the names that it makes is taken away.
	f := lay(file.New(0), "m00000002", "x", "w00000001", "y", "CURRENT2", "z")
	open(t, f)
	holds(t, "others", f, "CURRENT", first, "CURRENT2", "z", first, framed(t, edit.Edit{Log: 2, Next: 2}), "m00000002", "x", "w00000001", "y")
}

func TestP1301NewFails(t *testing.T) {
	for n := range 9 {
		f := file.New(0)
		f.Fuse(n)
		refused(t, "power for "+Name(n), f, api.ErrOff)
		if f.Steps() != n+1 {
			t.Errorf("power for %d: %d steps", n, f.Steps())
		}
	}
	for n := range 4 { // Sync, SyncDir, Sync, SyncDir
		f := file.New(0)
		f.Bad(n)
		refused(t, "a bad sync behind "+Name(n), f, api.ErrIO)
		if want := []int{3, 4, 7, 9}[n]; f.Steps() != want {
			t.Errorf("a bad sync behind %d: %d steps, not %d", n, f.Steps(), want)
		}
		if m := open(t, f); !sameVersion(m.Version(), begun) || m.Name() != first {
			t.Errorf("once more behind %d: %v", n, m.Version())
		}
	}
	for room := 1; room < 22; room++ {
		refused(t, "room for "+Name(room), file.New(room), api.ErrFull)
	}
	refused(t, "no files", nil, api.ErrOff)
	refused(t, "zero files", &file.System{}, api.ErrOff)
	f := file.New(0)
	f.Crash(0)
	refused(t, "no power", f, api.ErrOff)
}

func TestP1301NewIsSwitchedToLast(t *testing.T) {
	// Ahead of the switch the file stands, whole: its name and its bytes last.
	for n := range 9 {
		f := file.New(0)
		f.Fuse(n)
		Open(f)
		for dir := range 5 {
			g := f.Twin()
			g.Crash(dir)
			g.Restore()
			name, e := g.Read("CURRENT")
			if e == api.ErrNone {
				continue
			}
			if b, _ := g.Read(first); name != first || b != framed(t, edit.Edit{Log: 2, Next: 2}) {
				t.Errorf("power for %d, dir %d: %q, %q", n, dir, name, b)
			}
		}
		if f.Restore(); n >= 4 && !slices.Contains(crashed(f).Names(), first) {
			t.Errorf("power for %d: the file's name did not last", n)
		}
	}
}

func TestP1301Loads(t *testing.T) {
	edits := []edit.Edit{
		{Log: 2, Next: 9, Seq: 5},
		{Log: 4, Next: 3, Seq: 4, Add: tabs(tab(1, 0, "a", "c"), tab(2, 0, "b", "d"))},
		{Next: 12, Add: tabs(tab(11, 1, "a", "d")), Drop: []int{2, 1}},
		{},
	}
	f := lay(file.New(0), "CURRENT", "m00000055", "m00000055", framed(t, edits...), first, "x", "CURRENT~", first)
	steps, files := f.Steps(), f.Names()
	m, v, e := Open(f)
	want := edit.Version{Log: 4, Next: 12, Seq: 5, Tables: tabs(tab(11, 1, "a", "d"))}
	if e != api.OK || !sameVersion(v, want) || !sameVersion(m.Version(), want) || m.Name() != "m00000055" || m.Broken() {
		t.Errorf("%v, %d, %q", v, e, m.Name())
	}
	if n := f.Steps() - steps; n != 2 || !slices.Equal(f.Names(), files) { // SyncDir, Sync
		t.Errorf("%d steps, %q", n, f.Names())
	}
}

func TestP1301LoadSyncsTheDirectoryFirst(t *testing.T) {
	f := lay(file.New(0), "CURRENT", first, first, framed(t, edit.Edit{Log: 2, Next: 2}))
	lay(f, "m00000007", framed(t, edit.Edit{Log: 2, Next: 8}))
	f.Create("x")
	f.Append("x", "m00000007")
	f.Sync("x")
	f.Rename("x", "CURRENT") // is pending: a crash would take it back
	g := f.Twin()
	g.Bad(0)
	refused(t, "a bad SyncDir", g, api.ErrIO)
	g = f.Twin()
	g.Fuse(0)
	refused(t, "no power for SyncDir", g, api.ErrOff)
	open(t, f)
	if v := open(t, crashed(f)).Version(); v.Next != 8 {
		t.Errorf("the switch came back: %v", v)
	}
	// Its error comes ahead of all others.
	f = lay(file.New(0), "CURRENT", "x")
	f.Bad(0)
	refused(t, "a bad SyncDir of what is corrupt", f, api.ErrIO)
	refused(t, "what is corrupt", f, api.ErrCorrupt)
}

func TestP1301LoadSyncsTheFile(t *testing.T) {
	f := lay(file.New(0), "CURRENT", first, first, framed(t, edit.Edit{Log: 2, Next: 2}))
	f.Append(first, framed(t, edit.Edit{Next: 7}))
	g := f.Twin()
	g.Bad(1)
	refused(t, "a bad Sync", g, api.ErrIO)
	g = f.Twin()
	g.Fuse(1)
	refused(t, "no power for Sync", g, api.ErrOff)
	if v := open(t, crashed(f)).Version(); v.Next != 2 {
		t.Errorf("unsynced: %v", v)
	}
	if v := open(t, f).Version(); v.Next != 7 {
		t.Errorf("%v", v)
	}
	if v := open(t, crashed(f)).Version(); v.Next != 7 {
		t.Errorf("what was gone on with was lost: %v", v)
	}
}

func TestP1301Corrupt(t *testing.T) {
	good := framed(t, edit.Edit{Log: 2, Next: 2})
	for _, s := range wrongNames {
		files := []string{"CURRENT", s}
		if 1 <= len(s) && len(s) <= 20 && s != "CURRENT" {
			files = append(files, s, good)
		}
		refused(t, "CURRENT: "+s, lay(file.New(0), files...), api.ErrCorrupt)
	}
	refused(t, "a file that is not there", lay(file.New(0), "CURRENT", first), api.ErrCorrupt)
	many := edit.Edit{Next: 20_000}
	for i := range 10_001 {
		many.Add = append(many.Add, tab(i, 0, "", ""))
	}
	for _, c := range []struct{ what, edits string }{
		{"no bytes", ""},
		{"no whole frame", good[:len(good)-1]},
		{"a first frame that is spoilt", "\x01" + good[1:]},
		{"a record that is no edit", frame("x")},
		{"an empty record", frame("")},
		{"no edit behind good ones", good + good + frame("x")},
		{"no edit ahead of good ones", frame("x") + good},
		{"no edit, and torn", good + frame("x") + "torn"},
		{"bytes behind an edit", frame("\x02\x02\x00\x00\x00\x00")},
		{"too many tables", framed(t, many)},
		{"a number that is not there", good + framed(t, edit.Edit{Drop: []int{1}})},
		{"a Log that can't be", good + framed(t, edit.Edit{Log: 100_000_001})},
		{"a number above Next", good + framed(t, edit.Edit{Add: tabs(tab(2, 0, "", ""))})},
		{"a number twice", framed(t, edit.Edit{Next: 2, Add: tabs(tab(1, 0, "", ""))}, edit.Edit{Add: tabs(tab(1, 0, "", ""))})},
		{"a version that is not right till later", framed(t, edit.Edit{Add: tabs(tab(1, 0, "", ""))}, edit.Edit{Next: 2})},
		{"no edit, and Next at the end", framed(t, edit.Edit{Next: 100_000_000}) + frame("x") + "torn"},
	} {
		f := lay(file.New(0), "CURRENT", first, first, c.edits)
		refused(t, c.what, f, api.ErrCorrupt)
		holds(t, c.what, f, "CURRENT", first, first, c.edits)
	}
}

func TestP1301LaidAnew(t *testing.T) {
	made := framed(t, edit.Edit{Log: 3, Next: 9, Seq: 8}, edit.Edit{Add: tabs(tab(1, 0, "a", "c"), tab(2, 0, "b", "d"), tab(4, 2, "x", "y"), tab(5, 2, "e", "f"))}, edit.Edit{Drop: []int{1}})
	want := edit.Version{Log: 3, Next: 10, Seq: 8, Tables: tabs(tab(2, 0, "b", "d"), tab(5, 2, "e", "f"), tab(4, 2, "x", "y"))}
	anew := framed(t, edit.Edit{Log: 3, Next: 10, Seq: 8, Add: want.Tables})
	spoilt := framed(t, edit.Edit{Next: 50})
	for _, torn := range []string{"t", "torn", "\x00", strings.Repeat("\x00", 7), strings.Repeat("x", 30_000), spoilt[:len(spoilt)-1], spoilt[:len(spoilt)-1] + "x" + spoilt} {
		f := lay(file.New(0), "CURRENT", first, first, made+torn, "w00000009", "z")
		steps := f.Steps()
		m, v, e := Open(f)
		if e != api.OK || !sameVersion(v, want) || !sameVersion(m.Version(), want) || m.Name() != "m00000009" || m.Broken() {
			t.Errorf("%.40q: %v, %d", torn, v, e)
		}
		if n := f.Steps() - steps; n != 11 { // SyncDir, nine as of a new one, Remove
			t.Errorf("%.40q: %d steps", torn, n)
		}
		holds(t, "laid anew", f, "CURRENT", "m00000009", "m00000009", anew, "w00000009", "z")
		if v := open(t, crashed(f)).Version(); !sameVersion(v, want) {
			t.Errorf("%.40q: behind a crash: %v", torn, v)
		}
		add(t, m, edit.Edit{Drop: []int{4}})
		want := edit.Version{Log: 3, Next: 10, Seq: 8, Tables: want.Tables[:2]}
		if v := open(t, f).Version(); !sameVersion(v, want) || !sameVersion(m.Version(), want) {
			t.Errorf("%.40q: behind an edit: %v", torn, v)
		}
		holds(t, "behind an edit", f, "CURRENT", "m00000009", "m00000009", anew+framed(t, edit.Edit{Drop: []int{4}}), "w00000009", "z")
	}
}

func TestP1301LaidAnewInPlaceOfOthers(t *testing.T) {
	f := lay(file.New(0), "CURRENT", first, first, framed(t, edit.Edit{Next: 9})+"torn", "m00000009", "old", "CURRENT~", "old")
	steps := f.Steps()
	if v := open(t, f).Version(); v.Next != 10 || f.Steps() != steps+13 {
		t.Errorf("%v, %d steps", v, f.Steps()-steps)
	}
	holds(t, "in place of others", f, "CURRENT", "m00000009", "m00000009", framed(t, edit.Edit{Next: 10}))
	// What somebody else laid may have the name of the next file: then it is gone on with that name.
	f = lay(file.New(0), "CURRENT", "m00000009", "m00000009", framed(t, edit.Edit{Next: 9})+"torn")
	if v := open(t, f).Version(); v.Next != 10 {
		t.Errorf("of its own name: %v", v)
	}
	holds(t, "of its own name", f, "CURRENT", "m00000009", "m00000009", framed(t, edit.Edit{Next: 10}))
}

func TestP1301LaidAnewFails(t *testing.T) {
	edits := framed(t, edit.Edit{Next: 9}) + "torn"
	begin := func(room int) *file.System { return lay(file.New(room), "CURRENT", first, first, edits) }
	for n := range 10 {
		f := begin(0)
		f.Fuse(n)
		refused(t, "power for "+Name(n), f, api.ErrOff)
	}
	for n := range 5 {
		f := begin(0)
		f.Bad(n)
		refused(t, "a bad sync behind "+Name(n), f, api.ErrIO)
		if v := open(t, f).Version(); v.Next != 10 {
			t.Errorf("once more behind %d: %v", n, v)
		}
	}
	// Nobody is told that the old one could not be taken away.
	f := begin(0)
	f.Fuse(10)
	m, v, e := Open(f)
	if e != api.OK || v.Next != 10 || m.Name() != "m00000009" || m.Broken() || f.On() {
		t.Errorf("no power to take the old one away: %v, %d", v, e)
	}
	for room := 9 + len(edits); ; room++ {
		f := begin(room)
		m, v, e := Open(f)
		if e == api.OK {
			if want := 9 + len(edits) + 13 + 9; room != want || v.Next != 10 || m.Name() != "m00000009" {
				t.Errorf("room for %d, not %d: %v", room, want, v)
			}
			break
		}
		if b, _ := f.Read("CURRENT"); e != api.ErrFull || m != nil || b != first {
			t.Fatalf("room for %d: %d, %q", room, e, b)
		}
	}
}

func TestP1301Most(t *testing.T) {
	edits := framed(t, edit.Edit{Next: 99_999_999}) + "torn"
	f := lay(file.New(0), "CURRENT", first, first, edits)
	m := open(t, f)
	if v := m.Version(); v.Next != 100_000_000 || m.Name() != "m99999999" {
		t.Errorf("%v, %q", v, m.Name())
	}
	f.Append(m.Name(), "torn")
	steps, files := f.Steps(), f.Names()
	refused(t, "at the end", f, api.ErrMost)
	refused(t, "once more", f, api.ErrMost)
	if f.Steps() != steps+2 || !slices.Equal(f.Names(), files) { // SyncDir each
		t.Errorf("%d steps, %q", f.Steps()-steps, f.Names())
	}
	whole := lay(file.New(0), "CURRENT", first, first, framed(t, edit.Edit{Next: 100_000_000}))
	if v := open(t, whole).Version(); v.Next != 100_000_000 {
		t.Errorf("whole, at the end: %v", v)
	}
}

func TestP1302Example(t *testing.T) {
	f := file.New(0)
	m := open(t, f)
	add(t, m, edit.Edit{Next: 9})
	if v := open(t, f).Version(); v.Next != 9 || m.Version().Next != 9 {
		t.Errorf("%v, %v", v, m.Version())
	}
}

func TestP1302Add(t *testing.T) {
	f := file.New(0)
	m := open(t, f)
	l := []edit.Edit{
		{Log: 3, Next: 6, Seq: 7, Add: tabs(tab(2, 0, "a", "c"), tab(3, 0, "b", "d"))},
		{},
		{Next: 4, Seq: 6, Add: tabs(tab(5, 1, "a", "d"), tab(4, 1, "e", "f")), Drop: []int{3, 2}},
		{Drop: []int{4, 4}},
	}
	want := []edit.Version{
		{Log: 3, Next: 6, Seq: 7, Tables: tabs(tab(3, 0, "b", "d"), tab(2, 0, "a", "c"))},
		{Log: 3, Next: 6, Seq: 7, Tables: tabs(tab(3, 0, "b", "d"), tab(2, 0, "a", "c"))},
		{Log: 3, Next: 6, Seq: 7, Tables: tabs(tab(5, 1, "a", "d"), tab(4, 1, "e", "f"))},
		{Log: 3, Next: 6, Seq: 7, Tables: tabs(tab(5, 1, "a", "d"))},
	}
	for i, x := range l {
		steps := f.Steps()
		add(t, m, x)
		if f.Steps() != steps+2 || !sameVersion(m.Version(), want[i]) || m.Broken() || m.Name() != first {
			t.Errorf("%d: %d steps, %v", i, f.Steps()-steps, m.Version())
		}
		holds(t, "added", f, "CURRENT", first, first, framed(t, append([]edit.Edit{{Log: 2, Next: 2}}, l[:i+1]...)...))
		if v := open(t, crashed(f)).Version(); !sameVersion(v, want[i]) {
			t.Errorf("%d: behind a crash: %v", i, v)
		}
	}
}

func TestP1302AddRefuses(t *testing.T) {
	f := file.New(0)
	m := open(t, f)
	add(t, m, edit.Edit{Next: 9, Add: tabs(tab(3, 1, "a", "c"))})
	v, steps := m.Version(), f.Steps()
	for _, c := range []struct {
		what string
		x    edit.Edit
		want api.Errno
	}{
		{"a Log below 0", edit.Edit{Log: -1}, api.ErrArg},
		{"a Next below 0", edit.Edit{Next: math.MinInt}, api.ErrArg},
		{"a table's number below 0", edit.Edit{Add: tabs(tab(-1, 0, "", ""))}, api.ErrArg},
		{"a number to drop below 0", edit.Edit{Drop: []int{3, -3}}, api.ErrArg},
		{"Put's error comes first", edit.Edit{Log: -1, Drop: []int{4}}, api.ErrArg},
		{"a number to drop that is not there", edit.Edit{Drop: []int{4}}, api.ErrForm},
		{"a number twice", edit.Edit{Add: tabs(tab(3, 0, "", ""))}, api.ErrForm},
		{"a number that is Next", edit.Edit{Add: tabs(tab(9, 0, "", ""))}, api.ErrForm},
		{"keys in common", edit.Edit{Add: tabs(tab(4, 1, "c", "d"))}, api.ErrForm},
		{"a Log too great", edit.Edit{Log: math.MaxInt}, api.ErrForm},
		{"a Next too great", edit.Edit{Next: 100_000_001}, api.ErrForm},
		{"a Seq too great", edit.Edit{Seq: 1<<62 + 1}, api.ErrForm},
		{"a key too long", edit.Edit{Add: tabs(tab(4, 0, "", longKey+"k"))}, api.ErrForm},
	} {
		if e := m.Add(c.x); e != c.want || m.Broken() || !sameVersion(m.Version(), v) {
			t.Errorf("%s: %d, not %d; %v", c.what, e, c.want, m.Version())
		}
	}
	if f.Steps() != steps {
		t.Errorf("what was refused was laid: %d steps", f.Steps()-steps)
	}
	add(t, m, edit.Edit{Drop: []int{3}})
}

func TestP1302AddBreaks(t *testing.T) {
	ops := []func(f *file.System){
		func(f *file.System) { f.Fuse(0) },
		func(f *file.System) { f.Fuse(1) },
		func(f *file.System) { f.Bad(0) },
		func(f *file.System) { f.Crash(0) },
		func(f *file.System) { f.Remove(first) },
	}
	for i, spoil := range ops {
		f := file.New(0)
		m := open(t, f)
		add(t, m, edit.Edit{Next: 5, Add: tabs(tab(4, 0, "a", "b"))})
		v := m.Version()
		spoil(f)
		want := []api.Errno{api.ErrOff, api.ErrOff, api.ErrIO, api.ErrOff, api.ErrNone}[i]
		if e := m.Add(edit.Edit{Next: 7}); e != want || !m.Broken() || !sameVersion(m.Version(), v) || m.Name() != first {
			t.Errorf("%d: %d, not %d; %v", i, e, want, m.Version())
		}
		f.Restore()
		// It is broken ahead of all else, and nothing is done any more.
		steps := f.Steps()
		for _, x := range []edit.Edit{{Next: 8}, {}, {Log: -1}, {Drop: []int{1}}} {
			if e := m.Add(x); e != api.ErrRead || !m.Broken() || !sameVersion(m.Version(), v) {
				t.Errorf("%d: once more: %d", i, e)
			}
		}
		if f.Steps() != steps {
			t.Errorf("%d: %d steps of a broken one", i, f.Steps()-steps)
		}
	}
}

func TestP1302NoRoomBreaks(t *testing.T) {
	f := file.New(22 + 13)
	m := open(t, f)
	add(t, m, edit.Edit{Next: 5})
	if e := m.Add(edit.Edit{}); e != api.ErrFull || !m.Broken() || m.Version().Next != 5 {
		t.Errorf("%d, %v", e, m.Version())
	}
	if e := m.Add(edit.Edit{}); e != api.ErrRead {
		t.Errorf("once more: %d", e)
	}
	if m := open(t, f); m.Version().Next != 5 {
		t.Errorf("opened anew: %v", m.Version())
	}
}
