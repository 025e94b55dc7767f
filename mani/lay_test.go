package mani

import (
	"slices"
	"testing"

	"cornucopia/api"
	"cornucopia/edit"
	"cornucopia/file"
)

// size is how many bytes the file of edits has.
func size(f *file.System, m *Manifest) int {
	b, _ := f.Read(m.Name())
	return len(b)
}

// grown is a manifest whose file has just so many bytes, with tables from 2 on, and Next 1000.
func grown(t *testing.T, f *file.System, bytes int) *Manifest {
	t.Helper()
	m := open(t, f)
	add(t, m, edit.Edit{Next: 1000})
	num := 2
	for ; bytes-size(f, m) > 300; num++ {
		add(t, m, edit.Edit{Add: tabs(tab(num, 0, "", longKey[:200]))})
	}
	// Where a key's length takes a byte more, its first one makes up for it.
	for _, first := range []string{"", "k"} {
		for n := 1; n <= api.MaxKey; n++ {
			x := edit.Edit{Add: tabs(tab(num, 0, first, longKey[:n]))}
			if size(f, m)+len(framed(t, x)) == bytes {
				add(t, m, x)
				return m
			}
		}
	}
	t.Fatalf("no edit fills %d bytes", bytes)
	return nil
}

func TestP1302LaidAnewAboveTheSize(t *testing.T) {
	const small = 13 // an empty edit's frame
	for _, c := range []struct {
		bytes int
		anew  bool
	}{{20_000 - small - 1, false}, {20_000 - small, false}, {20_000 - small + 1, true}, {20_000, true}} {
		f := file.New(0)
		m := grown(t, f, c.bytes)
		if size(f, m) != c.bytes || m.Name() != first {
			t.Fatalf("%d bytes of %q, not %d", size(f, m), m.Name(), c.bytes)
		}
		v, steps := m.Version(), f.Steps()
		add(t, m, edit.Edit{})
		name, n := first, 2
		if c.anew {
			name, n = "m00001000", 12 // Append, Sync, nine as of a new one, Remove
			v.Next = 1001
		}
		if m.Name() != name || m.Broken() || !sameVersion(m.Version(), v) || f.Steps() != steps+n {
			t.Errorf("%d bytes: %q, Next %d, %d steps", c.bytes, m.Name(), m.Version().Next, f.Steps()-steps)
		}
		if !slices.Equal(f.Names(), []string{"CURRENT", name}) {
			t.Errorf("%d bytes: %q", c.bytes, f.Names())
		}
		if c.anew {
			holds(t, "laid anew", f, "CURRENT", name, name, framed(t, edit.Whole(v)))
		}
		if got := open(t, crashed(f)); got.Name() != name || !sameVersion(got.Version(), v) {
			t.Errorf("%d bytes: behind a crash: %q, %v", c.bytes, got.Name(), got.Version())
		}
	}
}

func TestP1302LaidAnewAgainAndAgain(t *testing.T) {
	// Where the version alone has more bytes, each edit makes a new file.
	f := file.New(0)
	m := open(t, f)
	x := edit.Edit{Next: 200}
	for i := range 40 {
		x.Add = append(x.Add, longTable(i+2))
	}
	add(t, m, x)
	for i := range 5 {
		if want := Name(200 + i); m.Name() != want || m.Version().Next != 201+i || !slices.Equal(f.Names(), []string{"CURRENT", want}) {
			t.Errorf("%d: %q, Next %d, %q", i, m.Name(), m.Version().Next, f.Names())
		}
		add(t, m, edit.Edit{Log: 3 + i})
	}
	add(t, m, edit.Edit{Drop: []int{2, 3, 4, 5, 6, 7, 8, 9, 10, 11, 12}})
	name := m.Name()
	add(t, m, edit.Edit{Log: 50})
	if v := open(t, f).Version(); m.Name() != name || !sameVersion(v, m.Version()) || len(v.Tables) != 29 || v.Log != 50 {
		t.Errorf("%q, not %q: %v", m.Name(), name, v)
	}
}

func TestP1302LaidAnewFails(t *testing.T) {
	// Power for Append and Sync, then for less than all of the rest but the last one.
	for n := range 9 {
		f := file.New(0)
		m := grown(t, f, 20_000)
		want := m.Version()
		want.Log = 77
		f.Fuse(2 + n)
		if e := m.Add(edit.Edit{Log: 77}); e != api.ErrOff || !m.Broken() || !sameVersion(m.Version(), want) || m.Name() != first {
			t.Errorf("power for %d: %d, %v, Log %d, Next %d", n, e, m.Broken(), m.Version().Log, m.Version().Next)
		}
		if e := m.Add(edit.Edit{}); e != api.ErrRead {
			t.Errorf("power for %d: once more: %d", n, e)
		}
	}
	for n := range 4 {
		f := file.New(0)
		m := grown(t, f, 20_000)
		want := m.Version()
		want.Log = 77
		f.Bad(1 + n)
		if e := m.Add(edit.Edit{Log: 77}); e != api.ErrIO || !m.Broken() || !sameVersion(m.Version(), want) || m.Name() != first {
			t.Errorf("a bad sync behind %d: %d, %v, Log %d, Next %d", n, e, m.Broken(), m.Version().Log, m.Version().Next)
		}
		if e := m.Add(edit.Edit{}); e != api.ErrRead {
			t.Errorf("a bad sync behind %d: once more: %d", n, e)
		}
		if v := open(t, f).Version(); v.Log != 77 || !slices.Equal(v.Tables, want.Tables) {
			t.Errorf("a bad sync behind %d: opened anew: Log %d", n, v.Log)
		}
	}
	// The old one need not be taken away.
	f := file.New(0)
	m := grown(t, f, 20_000)
	f.Fuse(11)
	if e := m.Add(edit.Edit{Log: 77}); e != api.OK || m.Broken() || m.Version().Next != 1001 || m.Name() != "m00001000" || f.On() {
		t.Errorf("no power to take the old one away: %d, Next %d", e, m.Version().Next)
	}
}

func TestP1302LaidAnewHasNoRoom(t *testing.T) {
	f := file.New(20_100)
	m := grown(t, f, 20_000)
	if e := m.Add(edit.Edit{Log: 77}); e != api.ErrFull || !m.Broken() || m.Version().Log != 77 || m.Version().Next != 1000 {
		t.Errorf("%d, %v, Log %d", e, m.Broken(), m.Version().Log)
	}
	// What was begun is no harm: the file that counts is whole.
	if v := open(t, f).Version(); v.Log != 77 || v.Next != 1000 {
		t.Errorf("opened anew: Log %d", v.Log)
	}
}

func TestP1302LaidAnewInPlaceOfOthers(t *testing.T) {
	f := file.New(0)
	m := grown(t, f, 20_000)
	lay(f, "m00001000", "old", "CURRENT~", "old")
	add(t, m, edit.Edit{})
	holds(t, "in place of others", f, "CURRENT", "m00001000", "m00001000", framed(t, edit.Whole(m.Version())))
}

func TestP1302Most(t *testing.T) {
	f := file.New(0)
	m := grown(t, f, 20_000)
	// A number less than the end: the last file.
	add(t, m, edit.Edit{Next: 99_999_999})
	if m.Name() != "m99999999" || m.Version().Next != 100_000_000 {
		t.Errorf("%q, %d", m.Name(), m.Version().Next)
	}
	x := edit.Edit{Log: 9}
	for i := range 40 {
		x.Add = append(x.Add, longTable(2000+i))
	}
	steps := f.Steps()
	if e := m.Add(x); e != api.ErrMost || !m.Broken() || m.Version().Log != 9 || m.Name() != "m99999999" || f.Steps() != steps+2 {
		t.Errorf("%d, %v, Log %d, %d steps", e, m.Broken(), m.Version().Log, f.Steps()-steps)
	}
	if e := m.Add(edit.Edit{}); e != api.ErrRead {
		t.Errorf("once more: %d", e)
	}
	// The edit counts: it is there, whoever opens.
	n := open(t, crashed(f))
	if !sameVersion(n.Version(), m.Version()) {
		t.Errorf("opened anew: %v", n.Version())
	}
}

// few are tables from one number on, of level 0, with short keys.
func few(from, n int) []api.Table {
	var l []api.Table
	for i := range n {
		l = append(l, tab(from+i, 0, "", ""))
	}
	return l
}

func TestP1303ManyTables(t *testing.T) {
	// More tables than edit.Get takes, by one edit or by several, are kept all the same; so are the edits that drop more.
	nums := func(from, n int) []int {
		var l []int
		for i := range n {
			l = append(l, from+i)
		}
		return l
	}
	f := file.New(0)
	m := open(t, f)
	for i, x := range []edit.Edit{
		{Next: 100_000, Add: few(2, 10_000)},
		{Log: 3, Add: few(20_000, 1)},
		{Log: 4, Add: few(30_000, 10_001)},
		{Log: 5, Add: few(50_000, 19_999)},
		{Log: 6, Drop: nums(30_000, 10_001)},
		{Log: 7, Drop: append(nums(50_000, 19_999), nums(3, 9_999)...), Add: few(80_000, 15_000)},
		{Log: 8, Drop: append(nums(80_000, 14_990), nums(80_000, 14_990)...)},
		{Log: 9},
		{Log: 10, Drop: slices.Repeat([]int{2}, 10_001)},
		{Log: 11},
	} {
		want, e := edit.Apply(m.Version(), x)
		if e != api.OK {
			t.Fatalf("%d: %d", i, e)
		}
		add(t, m, x)
		// Each file that was laid took a number.
		got := m.Version()
		if got.Next < want.Next || got.Next > want.Next+1 || got.Log != want.Log || !slices.Equal(got.Tables, want.Tables) {
			t.Errorf("%d: Log %d, Next %d, %d tables", i, got.Log, got.Next, len(got.Tables))
		}
		n := open(t, crashed(f))
		if !sameVersion(n.Version(), got) || n.Name() != m.Name() {
			t.Errorf("%d: opened anew: Log %d, %d tables", i, n.Version().Log, len(n.Version().Tables))
		}
		g := f.Twin()
		g.Append(m.Name(), "torn")
		if v := open(t, g).Version(); v.Next != got.Next+1 || !slices.Equal(v.Tables, got.Tables) {
			t.Errorf("%d: torn: Log %d, %d tables", i, v.Log, len(v.Tables))
		}
	}
}

func TestP1303ManyTablesFail(t *testing.T) {
	for n := range 9 {
		f := file.New(0)
		m := open(t, f)
		add(t, m, edit.Edit{Next: 100_000, Add: few(2, 3)})
		f.Fuse(n)
		if e := m.Add(edit.Edit{Log: 4, Add: few(30_000, 10_001)}); e != api.ErrOff || !m.Broken() || m.Version().Log != 2 {
			t.Errorf("power for %d: %d, Log %d", n, e, m.Version().Log)
		}
		for dir := range 4 {
			g := f.Twin()
			g.Crash(dir, 20_000, 20_000, 20_000, 20_000)
			g.Restore()
			v := open(t, g).Version()
			if old := v.Log == 2 && len(v.Tables) == 3; !old && (v.Log != 4 || len(v.Tables) != 10_004) {
				t.Errorf("power for %d, dir %d: Log %d, %d tables", n, dir, v.Log, len(v.Tables))
			}
		}
	}
}
