package mani

import (
	"fmt"
	"math/rand"
	"slices"
	"testing"

	"cornucopia/api"
	"cornucopia/edit"
	"cornucopia/file"
)

// story is edits of which the Log tells which one it is; one of them makes the file too great, one of them lets it become small again.
func story() []edit.Edit {
	l := []edit.Edit{
		{Log: 3, Next: 100},
		{Log: 4, Add: tabs(tab(5, 0, "a", "c"), tab(6, 1, "b", "d"))},
		{Log: 5},
		{Log: 6, Drop: []int{5}},
		{Log: 7, Drop: []int{6}},
		{Log: 8, Next: 300, Add: tabs(tab(299, 0, "x", "y"))},
		{Log: 9, Seq: 9},
		{Log: 10},
	}
	for i := range 32 {
		l[3].Add = append(l[3].Add, longTable(40+i))
		l[4].Drop = append(l[4].Drop, 40+i)
	}
	l[4].Add = tabs(longTable(77))
	return l
}

// telling is the tables behind each edit, by its Log; of a new manifest it is 2.
func telling(t *testing.T) map[int][]api.Table {
	t.Helper()
	v := begun
	m := map[int][]api.Table{2: nil}
	for _, x := range story() {
		next, e := edit.Apply(v, x)
		if e != api.OK {
			t.Fatalf("Apply: %d", e)
		}
		v = next
		m[v.Log] = v.Tables
	}
	return m
}

// live opens a manifest and adds what is not there yet of the story; it tells the Log of the last one that was OK, and of the one under way; 0: not even Open was.
func live(f *file.System) (last, underWay int) {
	m, v, e := Open(f)
	if e != api.OK {
		return 0, 0
	}
	last = v.Log
	for _, x := range story() {
		if x.Log <= v.Log {
			continue
		}
		if m.Add(x) != api.OK {
			return last, x.Log
		}
		last = x.Log
	}
	return last, last
}

// stands opens a manifest of f, and holds it to what was there: a Log from last on, not above underWay, and its tables.
func stands(t *testing.T, what string, f *file.System, last, underWay int, tables map[int][]api.Table) *Manifest {
	t.Helper()
	m, v, e := Open(f)
	if e != api.OK {
		t.Fatalf("%s: Open: %d", what, e)
	}
	if v.Log < last || v.Log > underWay || !slices.Equal(v.Tables, tables[v.Log]) {
		t.Fatalf("%s: Log %d, not %d to %d; %d tables", what, v.Log, last, underWay, len(v.Tables))
	}
	return m
}

// ways to crash: how much of the directory and of the files stays.
func ways() [][]int {
	l := [][]int{{0}}
	for dir := range 6 {
		for _, keep := range []int{0, 1, 7, 8, 12, 13, 100, 600, 19_000, -1, -2} {
			l = append(l, []int{dir, keep, keep, keep, keep}, []int{dir, 0, keep}, []int{dir, keep, 0, keep})
		}
	}
	return l
}

func TestP1303PowerFailsAnywhere(t *testing.T) {
	tables := telling(t)
	f := file.New(0)
	live(f)
	all, laid := f.Steps(), f.Names()
	if len(laid) != 2 || laid[1] == first {
		t.Fatalf("the story lays no file anew: %q", laid)
	}
	for n := range all + 1 {
		f := file.New(0)
		f.Fuse(n)
		last, underWay := live(f)
		for _, way := range ways() {
			g := f.Twin()
			g.Crash(way[0], way[1:]...)
			g.Restore()
			what := fmt.Sprint("power for ", n, ", crash ", way)
			m := stands(t, what, g, max(last, 2), max(underWay, 2), tables)
			// What was told is there from then on.
			log := m.Version().Log
			stands(t, what+", once more", crashed(g), log, log, tables)
			if e := m.Add(edit.Edit{Log: 500}); e != api.OK {
				t.Fatalf("%s: Add: %d", what, e)
			}
			if v := open(t, crashed(g)).Version(); v.Log != 500 || !slices.Equal(v.Tables, tables[log]) {
				t.Fatalf("%s: behind an edit: Log %d", what, v.Log)
			}
		}
	}
}

func TestP1303SyncsFailAnywhere(t *testing.T) {
	tables := telling(t)
	for n := range 40 {
		f := file.New(0)
		f.Bad(n)
		last, underWay := live(f)
		f.Bad(-1)
		what := fmt.Sprint("a bad sync behind ", n)
		stands(t, what+", without a crash", f.Twin(), max(last, 2), max(underWay, 2), tables)
		for _, way := range ways() {
			g := f.Twin()
			g.Crash(way[0], way[1:]...)
			g.Restore()
			stands(t, fmt.Sprint(what, ", crash ", way), g, max(last, 2), max(underWay, 2), tables)
		}
	}
}

func TestP1303FailureBehindFailure(t *testing.T) {
	tables := telling(t)
	r := rand.New(rand.NewSource(13))
	for range 400 {
		f := file.New(0)
		last := 2
		for round := 0; last < 10 && round < 200; round++ {
			f.Fuse(-1)
			f.Bad(-1)
			if r.Intn(3) == 0 {
				f.Bad(r.Intn(12))
			} else {
				f.Fuse(r.Intn(25))
			}
			l, underWay := live(f)
			last, underWay = max(last, l), max(last, underWay)
			if r.Intn(4) > 0 {
				f.Crash(r.Intn(8), r.Intn(20_000), r.Intn(20_000), r.Intn(20_000), r.Intn(20_000))
				f.Restore()
			}
			f.Restore()
			f.Fuse(-1)
			f.Bad(-1)
			// One under way may be there; from now on it stays.
			last = stands(t, "failure behind failure", f, last, underWay, tables).Version().Log
		}
		if last < 10 {
			t.Fatalf("never done: %d", last)
		}
	}
}

func TestP1303NewMemory(t *testing.T) {
	f := file.New(0)
	m, v, _ := Open(f)
	x := edit.Edit{Next: 9, Add: append(make([]api.Table, 0, 8), tab(3, 0, "a", "b"), tab(4, 0, "c", "d")), Drop: make([]int, 0, 8)}
	add(t, m, x)
	want := edit.Version{Log: 2, Next: 9, Tables: tabs(tab(4, 0, "c", "d"), tab(3, 0, "a", "b"))}
	if len(v.Tables) != 0 || v.Next != 2 {
		t.Errorf("what Open told has changed: %v", v)
	}
	if x.Add[0] != tab(3, 0, "a", "b") || x.Add[1] != tab(4, 0, "c", "d") || x.Add[:3][2] != (api.Table{}) {
		t.Errorf("what was handed in has changed: %v", x.Add)
	}
	x.Add[0] = tab(8, 3, "", "")
	got := m.Version()
	got.Tables[0] = tab(7, 3, "", "")
	_ = append(got.Tables[:1], tab(7, 3, "", ""))
	if v := m.Version(); !sameVersion(v, want) {
		t.Errorf("behind changes of what was told: %v", v)
	}
	n, v, _ := Open(f)
	v.Tables[0] = tab(7, 3, "", "")
	if v := n.Version(); !sameVersion(v, want) {
		t.Errorf("behind a change of what Open told: %v", v)
	}
	add(t, n, edit.Edit{Drop: []int{3}})
	if v := open(t, f).Version(); !slices.Equal(v.Tables, want.Tables[:1]) {
		t.Errorf("on disk: %v", v)
	}
}

func TestP1303NoManifest(t *testing.T) {
	var none *Manifest
	var zero Manifest
	for _, m := range []*Manifest{none, &zero} {
		for _, x := range []edit.Edit{{}, {Next: 9}, {Log: -1}, {Drop: []int{1}}} {
			if e := m.Add(x); e != api.ErrArg {
				t.Errorf("Add: %d", e)
			}
		}
		if m.Name() != "" || m.Broken() || !sameVersion(m.Version(), edit.Version{}) {
			t.Errorf("%q, %v, %v", m.Name(), m.Broken(), m.Version())
		}
	}
}
