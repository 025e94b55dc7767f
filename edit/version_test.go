package edit

import (
	"cmp"
	"math"
	"math/rand"
	"reflect"
	"slices"
	"testing"

	"cornucopia/api"
)

func tab(num, level int, first, last string) api.Table {
	return api.Table{Num: num, Level: level, Size: 1, First: first, Last: last}
}

func tabs(l ...api.Table) []api.Table { return l }

func sameVersion(a, b Version) bool {
	return a.Log == b.Log && a.Next == b.Next && a.Seq == b.Seq && slices.Equal(a.Tables, b.Tables)
}

// plainRight is the chapter word by word: every table against every other.
func plainRight(v Version) bool {
	if v.Log < 0 || v.Log > 100000000 || v.Next < 0 || v.Next > 100000000 || v.Seq > 4611686018427387904 {
		return false
	}
	for i, t := range v.Tables {
		if t.Num < 0 || t.Num >= v.Next || t.Level < 0 || t.Level > 3 || t.Size < 1 || t.Size > 1099511627776 {
			return false
		}
		if t.First > t.Last || len(t.First) > 300 || len(t.Last) > 300 {
			return false
		}
		for _, u := range v.Tables[i+1:] {
			if t.Num == u.Num || t.Level > 0 && t.Level == u.Level && t.First <= u.Last && u.First <= t.Last {
				return false
			}
		}
	}
	return true
}

// plainOrder lays tables into their order, level by level.
func plainOrder(l []api.Table) []api.Table {
	var out []api.Table
	for level := range 4 {
		var of []api.Table
		for _, t := range l {
			if t.Level == level {
				of = append(of, t)
			}
		}
		slices.SortStableFunc(of, func(a, b api.Table) int {
			if level == 0 {
				return cmp.Compare(b.Num, a.Num)
			}
			return cmp.Compare(a.First, b.First)
		})
		out = append(out, of...)
	}
	return out
}

func plainApply(v Version, e Edit) (Version, api.Errno) {
	next := Version{Log: max(v.Log, e.Log), Next: max(v.Next, e.Next), Seq: max(v.Seq, e.Seq)}
	for _, n := range e.Drop {
		if !slices.ContainsFunc(v.Tables, func(t api.Table) bool { return t.Num == n }) {
			return Version{}, api.ErrForm
		}
	}
	for _, t := range v.Tables {
		if !slices.Contains(e.Drop, t.Num) {
			next.Tables = append(next.Tables, t)
		}
	}
	next.Tables = append(next.Tables, e.Add...)
	if !plainRight(next) {
		return Version{}, api.ErrForm
	}
	next.Tables = plainOrder(next.Tables)
	return next, api.OK
}

func TestExample(t *testing.T) {
	v, e := Apply(Version{}, Edit{Next: 3, Add: tabs(tab(1, 0, "a", "c"), tab(2, 0, "b", "d"))})
	if want := (Version{Next: 3, Tables: tabs(tab(2, 0, "b", "d"), tab(1, 0, "a", "c"))}); e != api.OK || !sameVersion(v, want) {
		t.Errorf("Apply: %v, %d, not %v", v, e, want)
	}
}

func TestP1202Apply(t *testing.T) {
	v := Version{Log: 2, Next: 10, Seq: 5, Tables: tabs(tab(9, 0, "a", "z"), tab(4, 0, "a", "z"), tab(3, 1, "b", "c"), tab(8, 1, "d", "d"), tab(1, 3, "", "x"))}
	left := func(e Edit) Version { return Version{Log: max(2, e.Log), Next: max(10, e.Next), Seq: max(5, e.Seq)} }
	for _, c := range []struct {
		name string
		e    Edit
		want []api.Table // nil: refused
	}{
		{"nothing", Edit{}, v.Tables},
		{"lesser numbers", Edit{Log: 1, Next: 9, Seq: 4}, v.Tables},
		{"numbers below 0", Edit{Log: -1, Next: math.MinInt}, v.Tables},
		{"greater numbers", Edit{Log: 100_000_000, Next: 100_000_000, Seq: 1 << 62}, v.Tables},
		{"too great a Log", Edit{Log: 100_000_001}, nil},
		{"too great a Next", Edit{Next: 100_000_001}, nil},
		{"too great a Seq", Edit{Seq: 1<<62 + 1}, nil},
		{"a drop", Edit{Drop: []int{4}}, tabs(v.Tables[0], v.Tables[2], v.Tables[3], v.Tables[4])},
		{"a drop twice", Edit{Drop: []int{4, 4, 4}}, tabs(v.Tables[0], v.Tables[2], v.Tables[3], v.Tables[4])},
		{"drops of several levels", Edit{Drop: []int{1, 8, 3, 9}}, tabs(v.Tables[1])},
		{"all dropped", Edit{Drop: []int{1, 3, 4, 8, 9}}, []api.Table{}},
		{"a drop of none", Edit{Drop: []int{5}}, nil},
		{"a drop of none below 0", Edit{Drop: []int{-1}}, nil},
		{"a drop of none behind one", Edit{Drop: []int{4, 5}}, nil},
		{"a drop of what is added only", Edit{Drop: []int{5}, Add: tabs(tab(5, 0, "a", "b"))}, nil},
		{"dropped and added on another level", Edit{Drop: []int{9}, Add: tabs(tab(9, 2, "a", "z"))}, tabs(v.Tables[1], v.Tables[2], v.Tables[3], tab(9, 2, "a", "z"), v.Tables[4])},
		{"there already", Edit{Add: tabs(tab(4, 2, "a", "b"))}, nil},
		{"added twice", Edit{Add: tabs(tab(5, 2, "a", "b"), tab(5, 0, "a", "b"))}, nil},
		{"between on level 0", Edit{Add: tabs(tab(7, 0, "c", "c"))}, tabs(v.Tables[0], tab(7, 0, "c", "c"), v.Tables[1], v.Tables[2], v.Tables[3], v.Tables[4])},
		{"ahead and behind on level 1", Edit{Add: tabs(tab(0, 1, "da", "e"), tab(2, 1, "", "a"))}, tabs(v.Tables[0], v.Tables[1], tab(2, 1, "", "a"), v.Tables[2], v.Tables[3], tab(0, 1, "da", "e"), v.Tables[4])},
		{"keys in common at the one end", Edit{Add: tabs(tab(0, 1, "a", "b"))}, nil},
		{"keys in common at the other end", Edit{Add: tabs(tab(0, 1, "d", "e"))}, nil},
		{"keys in common inside", Edit{Add: tabs(tab(0, 1, "ba", "bb"))}, nil},
		{"keys in common around", Edit{Add: tabs(tab(0, 1, "a", "z"))}, nil},
		{"keys in common on the last level", Edit{Add: tabs(tab(0, 3, "x", "y"))}, nil},
		{"in the room of one dropped", Edit{Drop: []int{3}, Add: tabs(tab(0, 1, "a", "cz"))}, tabs(v.Tables[0], v.Tables[1], tab(0, 1, "a", "cz"), v.Tables[3], v.Tables[4])},
		{"a Num at Next", Edit{Add: tabs(tab(10, 0, "", ""))}, nil},
		{"a Num below a greater Next", Edit{Next: 11, Add: tabs(tab(10, 2, "", ""))}, tabs(v.Tables[0], v.Tables[1], v.Tables[2], v.Tables[3], tab(10, 2, "", ""), v.Tables[4])},
		{"no size", Edit{Add: tabs(api.Table{Num: 5})}, nil},
	} {
		want, err := left(c.e), api.OK
		want.Tables = c.want
		if c.want == nil {
			want, err = Version{}, api.ErrForm
		}
		got, e := Apply(v, c.e)
		if e != err || !sameVersion(got, want) {
			t.Errorf("%s: %v, %d, not %v, %d", c.name, got, e, want, err)
		}
		if e != api.OK && !reflect.DeepEqual(got, Version{}) {
			t.Errorf("%s: %v beside an error", c.name, got)
		}
	}
}

// Only what Apply makes must be right, not what it is made of.
func TestP1202ApplyMends(t *testing.T) {
	for _, c := range []struct {
		v Version
		e Edit
	}{
		{Version{Log: -1, Next: -1}, Edit{}},
		{Version{Tables: tabs(tab(7, 0, "a", "b"))}, Edit{Next: 8}},
		{Version{Next: 9, Tables: tabs(tab(1, 1, "a", "m"), tab(2, 1, "c", "d"))}, Edit{Drop: []int{1}}},
		{Version{Next: 9, Tables: tabs(tab(1, 0, "a", "m"), tab(2, 0, "b", "b"), tab(1, 3, "c", "d"))}, Edit{Drop: []int{1}}},
		{Version{Next: 9, Tables: tabs(tab(-1, 77, "b", "a"), tab(3, 2, "x", "y"), tab(2, 2, "m", "n"))}, Edit{Drop: []int{-1}}},
	} {
		want, err := plainApply(c.v, c.e)
		if got, e := Apply(c.v, c.e); err != api.OK || e != err || !sameVersion(got, want) {
			t.Errorf("Apply(%v, %v): %v, %d, not %v, %d", c.v, c.e, got, e, want, err)
		}
	}
}

func randomTables(r *rand.Rand, most int) []api.Table {
	texts := []string{"", "a", "b", "c", "d", "e", "f", "g", "h"}
	var l []api.Table
	for range r.Intn(most + 1) {
		from := r.Intn(len(texts))
		to := min(from+r.Intn(3), len(texts)-1)
		if r.Intn(60) == 0 {
			from, to = to, from
		}
		l = append(l, api.Table{Num: r.Intn(30), Level: r.Intn(4), Size: 1 + r.Intn(3), First: texts[from], Last: texts[to]})
	}
	return l
}

func TestP1202AgainstPlainWords(t *testing.T) {
	r := rand.New(rand.NewSource(1202))
	fine, refused := 0, 0
	for range 60_000 {
		v := Version{Log: r.Intn(4), Next: 20 + r.Intn(10), Seq: r.Uint64() >> 2, Tables: randomTables(r, 5)}
		if got, want := Valid(v), plainRight(v); got != want {
			t.Fatalf("Valid(%v): %t", v, got)
		}
		e := Edit{Log: r.Intn(4), Next: 20 + r.Intn(20), Seq: r.Uint64() >> 2, Add: randomTables(r, 3)}
		for _, x := range v.Tables {
			if r.Intn(3) == 0 {
				e.Drop = append(e.Drop, x.Num+r.Intn(20)/19)
			}
		}
		want, err := plainApply(v, e)
		got, errno := Apply(v, e)
		if errno != err || !sameVersion(got, want) {
			t.Fatalf("Apply(%v, %v): %v, %d, not %v, %d", v, e, got, errno, want, err)
		}
		if err == api.OK {
			fine++
		} else {
			refused++
		}
	}
	if fine < 5000 || refused < 5000 {
		t.Errorf("%d are fine, %d refused: too few of one kind", fine, refused)
	}
}

func TestP1202Valid(t *testing.T) {
	with := func(change func(*api.Table)) Version {
		x := tab(4, 1, "a", "b")
		change(&x)
		return Version{Next: 5, Tables: tabs(tab(1, 0, "a", "z"), x)}
	}
	for _, c := range []struct {
		name string
		v    Version
		want bool
	}{
		{"empty", Version{}, true},
		{"all at their most", Version{Log: 100_000_000, Next: 100_000_000, Seq: 1 << 62, Tables: tabs(api.Table{Num: 99_999_999, Level: 3, Size: 1 << 40, First: longKey, Last: longKey})}, true},
		{"Log below", Version{Log: -1}, false},
		{"Log at the least", Version{Log: math.MinInt}, false},
		{"Log above", Version{Log: 100_000_001}, false},
		{"Log above Next", Version{Log: 7, Next: 3}, true},
		{"Next below", Version{Next: -1}, false},
		{"Next at the least", Version{Next: math.MinInt, Tables: tabs(tab(0, 0, "", ""))}, false},
		{"Next above", Version{Next: 100_000_001}, false},
		{"Seq above", Version{Seq: 1<<62 + 1}, false},
		{"Seq at the most of its kind", Version{Seq: math.MaxUint64}, false},
		{"right", with(func(x *api.Table) {}), true},
		{"Num 0", with(func(x *api.Table) { x.Num = 0 }), true},
		{"Num below", with(func(x *api.Table) { x.Num = -1 }), false},
		{"Num at Next", with(func(x *api.Table) { x.Num = 5 }), false},
		{"Num of another", with(func(x *api.Table) { x.Num = 1 }), false},
		{"Level 3", with(func(x *api.Table) { x.Level = 3 }), true},
		{"Level 4", with(func(x *api.Table) { x.Level = 4 }), false},
		{"Level below", with(func(x *api.Table) { x.Level = -1 }), false},
		{"Size 0", with(func(x *api.Table) { x.Size = 0 }), false},
		{"Size below", with(func(x *api.Table) { x.Size = -5 }), false},
		{"Size at the most", with(func(x *api.Table) { x.Size = 1 << 40 }), true},
		{"Size above", with(func(x *api.Table) { x.Size = 1<<40 + 1 }), false},
		{"First at Last", with(func(x *api.Table) { x.First = "b" }), true},
		{"First above Last", with(func(x *api.Table) { x.First = "c" }), false},
		{"texts without bytes", with(func(x *api.Table) { x.First, x.Last = "", "" }), true},
		{"First too long", with(func(x *api.Table) { x.First, x.Last = longKey+"k", "l" }), false},
		{"Last too long", with(func(x *api.Table) { x.Last = longKey + "k" }), false},
		{"Last long", with(func(x *api.Table) { x.Last = longKey }), true},
		{"the same keys on level 0", Version{Next: 5, Tables: tabs(tab(2, 0, "a", "b"), tab(1, 0, "a", "b"))}, true},
		{"one key in common", Version{Next: 5, Tables: tabs(tab(1, 1, "a", "b"), tab(2, 1, "b", "c"))}, false},
		{"one key in common on level 3", Version{Next: 5, Tables: tabs(tab(1, 3, "a", "b"), tab(2, 3, "b", "c"))}, false},
		{"next to each other", Version{Next: 5, Tables: tabs(tab(1, 1, "a", "b"), tab(2, 1, "b\x00", "c"))}, true},
		{"the same keys on other levels", Version{Next: 5, Tables: tabs(tab(1, 1, "a", "b"), tab(2, 2, "a", "b"))}, true},
		// It says which tables there are, in whatever order: P1203 asks for the order beside.
		{"not in order of levels", Version{Next: 5, Tables: tabs(tab(1, 2, "a", "b"), tab(2, 1, "a", "b"), tab(0, 0, "a", "b"))}, true},
		{"not in order of numbers", Version{Next: 5, Tables: tabs(tab(1, 0, "a", "b"), tab(2, 0, "a", "b"))}, true},
		{"not in order of keys", Version{Next: 5, Tables: tabs(tab(1, 1, "c", "d"), tab(2, 1, "a", "b"))}, true},
		{"not in order, and one around another", Version{Next: 5, Tables: tabs(tab(1, 1, "c", "d"), tab(3, 2, "x", "x"), tab(2, 1, "a", "e"))}, false},
		{"bytes, not letters", Version{Next: 5, Tables: tabs(tab(1, 1, "\x80", "\xff"), tab(2, 1, "", "\x7f"))}, true},
	} {
		given := slices.Clone(c.v.Tables)
		if got := Valid(c.v); got != c.want || plainRight(c.v) != c.want {
			t.Errorf("%s: %t, not %t", c.name, got, c.want)
		}
		if !slices.Equal(c.v.Tables, given) {
			t.Errorf("%s: Valid turned the tables round: %v", c.name, c.v.Tables)
		}
	}
}

func TestP1202Whole(t *testing.T) {
	v := Version{Log: 2, Next: 10, Seq: 5, Tables: tabs(tab(9, 0, "a", "z"), tab(4, 0, "a", "z"), tab(3, 1, "b", "c"))}
	if got, want := Whole(v), (Edit{Log: 2, Next: 10, Seq: 5, Add: v.Tables}); !sameEdit(got, want) {
		t.Errorf("Whole: %v, not %v", got, want)
	}
	if got := Whole(Version{}); !sameEdit(got, Edit{}) {
		t.Errorf("Whole of the empty one: %v", got)
	}
	e := Whole(v)
	e.Add[0].First = "changed"
	if v.Tables[0].First != "a" || shares(Whole(v).Add[2].First, v.Tables[2].First) || shares(Whole(v).Add[2].Last, v.Tables[2].Last) {
		t.Errorf("Whole shares memory with the version")
	}
}

// What is handed in is not changed, its spare room neither, and shares no memory with what is told.
func TestP1202ArgumentsStand(t *testing.T) {
	room := tabs(tab(1, 0, "a", "z"), tab(2, 0, "a", "z"), tab(4, 1, "m", "n"), tab(5, 1, "b", "c"), tab(77, 3, "spare", "spare"))
	more := tabs(tab(7, 1, "x", "y"), tab(6, 1, "d", "e"), tab(88, 3, "spare", "spare"))
	drops := []int{2, 4, 99}
	v := Version{Next: 8, Tables: room[:4]}
	e := Edit{Add: more[:2], Drop: drops[:2]}
	roomWas, moreWas, dropsWas := slices.Clone(room), slices.Clone(more), slices.Clone(drops)
	got, err := Apply(v, e)
	want := tabs(tab(1, 0, "a", "z"), tab(5, 1, "b", "c"), tab(6, 1, "d", "e"), tab(7, 1, "x", "y"))
	if err != api.OK || !slices.Equal(got.Tables, want) {
		t.Errorf("Apply: %v, %d, not %v", got, err, want)
	}
	if !slices.Equal(room, roomWas) || !slices.Equal(more, moreWas) || !slices.Equal(drops, dropsWas) {
		t.Errorf("Apply changed what it was given: %v, %v, %v", room, more, drops)
	}
	if shares(got.Tables[1].First, v.Tables[3].First) || shares(got.Tables[3].Last, e.Add[0].Last) {
		t.Errorf("the texts of the answer are those that were handed in")
	}
	for _, w := range []Edit{{}, {Next: 99}} {
		got, _ := Apply(v, w)
		for i := range got.Tables {
			got.Tables[i].Num = -5
		}
	}
	if !slices.Equal(room, roomWas) {
		t.Errorf("the answer is the list that was handed in: %v", room)
	}
}

func TestP1203WholeMakesIt(t *testing.T) {
	r := rand.New(rand.NewSource(1203))
	seen := 0
	for range 5000 {
		v := Version{Log: r.Intn(100_000_001), Next: 30 + r.Intn(50), Seq: r.Uint64() >> 2, Tables: plainOrder(randomTables(r, 5))}
		got, e := Apply(Version{}, Whole(v))
		if !Valid(v) {
			if e != api.ErrForm {
				t.Fatalf("%v is not right, and made of the empty one: %v, %d", v, got, e)
			}
			continue
		}
		seen++
		if e != api.OK || !sameVersion(got, v) || !Valid(got) {
			t.Fatalf("%v, made of the empty one: %v, %d", v, got, e)
		}
		b, e := Put(Whole(v))
		x, err := Get(b)
		if e != api.OK || err != api.OK {
			t.Fatalf("%v by its bytes: %d, %d", v, e, err)
		}
		if got, e := Apply(Version{}, x); e != api.OK || !sameVersion(got, v) {
			t.Fatalf("%v by its bytes: %v, %d", v, got, e)
		}
	}
	if seen < 1000 {
		t.Errorf("only %d versions are right", seen)
	}
}
