package pick

import (
	"fmt"
	"math"
	"math/big"
	"math/rand"
	"reflect"
	"slices"
	"strings"
	"testing"
	"unsafe"

	"cornucopia/api"
	"cornucopia/edit"
)

func tab(num, level int, first, last string) api.Table {
	return api.Table{Num: num, Level: level, Size: 1, First: first, Last: last}
}

func sized(num, level, size int) api.Table {
	key := fmt.Sprintf("k%04d", num)
	return api.Table{Num: num, Level: level, Size: size, First: key, Last: key}
}

func tabs(l ...api.Table) []api.Table { return l }

func of(l ...api.Table) edit.Version { return edit.Version{Next: 1000, Tables: l} }

// sameJob holds jobs against each other; lists that are nil and empty are one.
func sameJob(a, b Job) bool {
	return a.Level == b.Level && slices.Equal(a.From, b.From) && slices.Equal(a.To, b.To)
}

// ints are those at which something may wrap round or end.
func ints() []int {
	l := []int{math.MinInt, math.MinInt + 1, -1 << 40, -2, -1, math.MaxInt - 1, math.MaxInt, 1 << 40, 1 << 32}
	for n := range api.Levels + 3 {
		l = append(l, n)
	}
	return l
}

// plain tells the tables that are such, one by one.
func plain(l []api.Table, is func(api.Table) bool) []api.Table {
	var out []api.Table
	for _, t := range l {
		if is(t) {
			out = append(out, t)
		}
	}
	return out
}

func plainOn(v edit.Version, levels ...int) []api.Table {
	return plain(v.Tables, func(t api.Table) bool { return slices.Contains(levels, t.Level) })
}

func plainBetween(t api.Table, first, last string) bool {
	return !(t.Last < first) && !(t.First > last)
}

func plainEnds(l []api.Table) (string, string) {
	var firsts, lasts []string
	for _, t := range l {
		firsts, lasts = append(firsts, t.First), append(lasts, t.Last)
	}
	return slices.Min(firsts), slices.Max(lasts)
}

// plainScore is the promise word by word, in numbers without an end.
func plainScore(v edit.Version, level int) int {
	if level == 0 {
		return 100 * len(plainOn(v, 0)) / 4
	}
	rooms := map[int]int64{1: 3000, 2: 30000}
	if rooms[level] == 0 {
		return 0
	}
	sum := new(big.Int)
	for _, t := range plainOn(v, level) {
		sum.Add(sum, big.NewInt(int64(t.Size)))
	}
	sum.Mul(sum, big.NewInt(100))
	sum.Div(sum, big.NewInt(rooms[level])) // Div is rounded down: what it divides by is above 0
	if sum.Cmp(big.NewInt(1<<40)) > 0 {
		return 1 << 40
	}
	return int(sum.Int64())
}

func plainOf(v edit.Version, level int) (Job, bool) {
	from := plainOn(v, level)
	if level < 0 || level > 2 || len(from) == 0 {
		return Job{}, false
	}
	if level > 0 {
		best := 0
		for i, t := range from {
			if t.Num < from[best].Num {
				best = i
			}
		}
		from = from[best : best+1]
	}
	first, last := plainEnds(from)
	to := plain(plainOn(v, level+1), func(t api.Table) bool { return plainBetween(t, first, last) })
	return Job{Level: level, From: from, To: to}, true
}

func plainNext(v edit.Version) (Job, bool) {
	a, b, c := plainScore(v, 0), plainScore(v, 1), plainScore(v, 2)
	switch most := max(a, b, c); {
	case most < 100:
		return Job{}, false
	case a == most:
		return plainOf(v, 0)
	case b == most:
		return plainOf(v, 1)
	}
	return plainOf(v, 2)
}

// plainBottom is the promise word by word, of levels that are no ends of their kind.
func plainBottom(v edit.Version, j Job) bool {
	all := slices.Concat(j.From, j.To)
	if len(all) == 0 {
		return true
	}
	first, last := plainEnds(all)
	for _, t := range v.Tables {
		isOf := slices.ContainsFunc(all, func(x api.Table) bool { return x.Num == t.Num })
		below := t.Level > j.Level+1
		beside := 0 <= t.Level && t.Level <= j.Level+1 && !isOf
		if (below || beside) && plainBetween(t, first, last) {
			return false
		}
	}
	return true
}

// randomTables tells tables of whatever levels, numbers, sizes and keys.
func randomTables(r *rand.Rand, most int) []api.Table {
	texts := []string{"", "a", "b", "ba", "c", "d", "e", "f"}
	sizes := []int{1, 999, 1500, 3000, 29_999, 1 << 40, math.MaxInt, math.MinInt, -1, 0}
	var l []api.Table
	for range r.Intn(most + 1) {
		size := r.Intn(3000)
		if r.Intn(4) == 0 {
			size = sizes[r.Intn(len(sizes))]
		}
		l = append(l, api.Table{Num: r.Intn(12), Level: r.Intn(6) - 1, Size: size, First: texts[r.Intn(len(texts))], Last: texts[r.Intn(len(texts))]})
	}
	return l
}

// rightVersion tells a right version that stands in order; keys are two letters.
func rightVersion(r *rand.Rand) edit.Version {
	e := edit.Edit{Log: 2, Next: 200}
	nums := r.Perm(199)
	add := func(level int, first, last string) {
		e.Add = append(e.Add, api.Table{Num: nums[len(e.Add)], Level: level, Size: 1 + r.Intn(2000*(1+9*(level/2))), First: first, Last: last})
	}
	for range r.Intn(7) {
		keys := []string{randomKey(r), randomKey(r)}
		slices.Sort(keys)
		add(0, keys[0], keys[1])
	}
	for level := 1; level < api.Levels; level++ {
		ends := cutKeys(r, "aa", "zz", r.Intn(6))
		for i := 0; i < len(ends); i += 2 {
			add(level, ends[i], ends[i+1])
		}
	}
	v, err := edit.Apply(edit.Version{}, e)
	if err != api.OK {
		panic("no right version")
	}
	return v
}

func randomKey(r *rand.Rand) string {
	return string([]byte{byte('a' + r.Intn(26)), byte('a' + r.Intn(26))})
}

// cutKeys tells up to most pairs of keys from first to last: each from one that is not above the next, and no two with a key in common.
func cutKeys(r *rand.Rand, first, last string, most int) []string {
	var l []string
	for range 2 * most {
		if k := randomKey(r); first <= k && k <= last {
			l = append(l, k)
		}
	}
	slices.Sort(l)
	l = slices.Compact(l)
	l = l[:len(l)/2*2]
	if len(l) > 0 && r.Intn(2) == 0 {
		l[1] = l[0] // a table of one key
	}
	return l
}

func TestExample(t *testing.T) {
	four := tabs(tab(4, 0, "c", "d"), tab(3, 0, "a", "z"), tab(2, 0, "b", "b"), tab(1, 0, "x", "y"))
	got, is := Next(of(four...))
	if want := (Job{From: four}); !is || !sameJob(got, want) {
		t.Errorf("Next: %v, %t, not %v", got, is, want)
	}
}

func TestP1501Overlap(t *testing.T) {
	l := tabs(tab(1, 0, "b", "d"), tab(2, 3, "a", "z"), tab(3, 0, "d", "d"), tab(4, 1, "e", "g"), tab(2, 1, "", ""))
	for _, c := range []struct {
		first, last string
		want        []int // places in l
	}{
		{"", "", []int{4}},
		{"", "a", []int{1, 4}},
		{"", "b", []int{0, 1, 4}},
		{"", "az", []int{1, 4}},
		{"b", "b", []int{0, 1}},
		{"c", "c", []int{0, 1}},
		{"d", "d", []int{0, 1, 2}},
		{"d\x00", "dz", []int{1}},
		{"d\x00", "e", []int{1, 3}},
		{"g", "z", []int{1, 3}},
		{"g\x00", "zz", []int{1}},
		{"z", "\xff", []int{1}},
		{"z\x00", "\xff", nil},
		{"\x80", "\xff", nil},
		{"", "\xff", []int{0, 1, 2, 3, 4}},
		// The words hold too where first is above last: Last is not below the one, First not above the other.
		{"e", "c", []int{1}},
		{"d", "b", []int{0, 1}},
		{"zz", "", nil},
	} {
		var want []api.Table
		for _, i := range c.want {
			want = append(want, l[i])
		}
		if got := Overlap(l, c.first, c.last); !slices.Equal(got, want) {
			t.Errorf("Overlap(%q, %q): %v, not %v", c.first, c.last, got, want)
		}
	}
	if got := Overlap(nil, "", "\xff"); len(got) > 0 {
		t.Errorf("Overlap of no tables: %v", got)
	}
	upside := tabs(tab(1, 0, "m", "c"))
	if a, b := Overlap(upside, "d", "e"), Overlap(upside, "c", "m"); len(a) != 0 || len(b) != 1 {
		t.Errorf("Overlap of a table whose First is above Last: %v, %v", a, b)
	}
}

func TestP1501Room(t *testing.T) {
	want := map[int]int{1: 3000, 2: 30_000, 3: 300_000}
	for _, level := range ints() {
		if got := Room(level); got != want[level] {
			t.Errorf("Room(%d): %d, not %d", level, got, want[level])
		}
	}
	if Zero != 4 || Base != 3000 {
		t.Errorf("Zero is %d, Base %d", Zero, Base)
	}
}

func TestP1502Score(t *testing.T) {
	many := func(n, level, size int) edit.Version {
		var l []api.Table
		for i := range n {
			l = append(l, sized(i, level, size))
		}
		return of(l...)
	}
	for _, c := range []struct {
		name  string
		v     edit.Version
		level int
		want  int
	}{
		{"no table", of(), 0, 0},
		{"no table on 1", of(sized(1, 0, 5), sized(2, 2, 5000)), 1, 0},
		{"one of 0", many(1, 0, 1), 0, 25},
		{"three of 0", many(3, 0, 1<<40), 0, 75},
		{"four of 0", many(4, 0, 1), 0, 100},
		{"41 of 0", many(41, 0, 1), 0, 1025},
		{"those of 0 alone", of(sized(1, 0, 1), sized(2, 1, 1), sized(3, 3, 1)), 0, 25},
		{"ahead of 100", many(1, 1, 2999), 1, 99},
		{"at 100", many(1, 1, 3000), 1, 100},
		{"behind 100", many(1, 1, 3029), 1, 100},
		{"at 101", many(1, 1, 3030), 1, 101},
		{"the least of all", many(1, 1, 29), 1, 0},
		{"the least of one", many(1, 1, 30), 1, 1},
		{"added ahead of being rounded", many(30, 1, 1), 1, 1},
		{"rests that make rooms", many(3, 1, 2999), 1, 299},
		{"of 2, below 1", many(1, 2, 299), 2, 0},
		{"of 2, 1", many(1, 2, 300), 2, 1},
		{"of 2, ahead of 100", many(3, 2, 9999), 2, 99},
		{"of 2, 100", many(3, 2, 10_000), 2, 100},
		{"the last level", many(9, 3, 1<<40), 3, 0},
		{"a level that is none", many(9, 4, 1<<40), 4, 0},
		{"a level below", many(9, -1, 1<<40), -1, 0},
		{"the greatest size", many(1, 1, 1<<40), 1, 1 << 40 / 30},
		{"29 of the greatest size", many(29, 1, 1<<40), 1, 29 << 40 / 30},
		{"the most", many(30, 1, 1<<40), 1, 1 << 40},
		{"no more than the most", many(31, 1, 1<<40), 1, 1 << 40},
		{"far above the most", many(1, 1, math.MaxInt), 1, 1 << 40},
		{"two that wrap round", many(2, 1, math.MaxInt), 1, 1 << 40},
		{"40 that wrap round", many(40, 1, math.MaxInt), 1, 1 << 40},
		{"many that wrap round", many(5000, 2, math.MaxInt), 2, 1 << 40},
		{"below 0, rounded down", many(1, 1, -1), 1, -1},
		{"below 0, whole", many(1, 1, -30), 1, -1},
		{"below 0, next", many(1, 1, -31), 1, -2},
		{"the least int", many(1, 2, math.MinInt), 2, -30744573456182587},
		{"the least and the greatest int", of(sized(1, 1, math.MinInt), sized(2, 1, math.MaxInt)), 1, -1},
		{"the greatest and the least int", of(sized(1, 1, math.MaxInt), sized(2, 1, math.MinInt), sized(3, 1, 31)), 1, 1},
	} {
		if got := Score(c.v, c.level); got != c.want || plainScore(c.v, c.level) != c.want {
			t.Errorf("%s: %d, not %d", c.name, got, c.want)
		}
	}
	if got := Score(many(5000, 1, math.MinInt), 1); got >= 0 {
		t.Errorf("the score of many of the least int: %d", got)
	}
	for _, level := range ints() {
		v := of(sized(1, level, 1<<40), sized(2, level, 1<<40))
		if got, want := Score(v, level), plainScore(v, level); got != want {
			t.Errorf("Score of two tables on level %d: %d, not %d", level, got, want)
		}
	}
}

func TestP1502Of(t *testing.T) {
	v := of(
		tab(9, 0, "d", "f"), tab(6, 0, "c", "d"),
		tab(2, 1, "a", "b"), tab(7, 1, "bb", "c"), tab(1, 1, "e", "ez"), tab(3, 1, "f", "g"), tab(8, 1, "g\x00", "z"),
		tab(5, 2, "a", "e"), tab(4, 2, "ez", "f"), tab(10, 2, "fa", "x"),
		tab(11, 3, "", "dz"), tab(12, 3, "e", "e"), tab(13, 3, "ee", "ez"),
	)
	at := func(level int, from, to []api.Table) Job { return Job{Level: level, From: from, To: to} }
	for _, c := range []struct {
		name  string
		v     edit.Version
		level int
		want  Job // without a table: false
	}{
		{"all of 0, and what has keys from the least to the greatest", v, 0, at(0, v.Tables[:2], v.Tables[3:6])},
		{"the least number of 1", v, 1, at(1, tabs(v.Tables[4]), v.Tables[7:9])},
		{"the least number of 2", v, 2, at(2, tabs(v.Tables[8]), tabs(v.Tables[12]))},
		{"the last level", v, 3, Job{}},
		{"no level", v, 4, Job{}},
		{"a level below", v, -1, Job{}},
		{"no table", of(), 0, Job{}},
		{"no table on it", of(tab(1, 0, "a", "b"), tab(2, 2, "a", "b")), 1, Job{}},
		{"one of 0", of(tab(1, 0, "a", "b")), 0, at(0, tabs(tab(1, 0, "a", "b")), nil)},
		{"a level further down is passed by", of(tab(1, 0, "a", "b"), tab(2, 2, "a", "b")), 0, at(0, tabs(tab(1, 0, "a", "b")), nil)},
		{"between those of 0 there is a gap", of(tab(2, 0, "x", "z"), tab(1, 0, "a", "b"), tab(3, 1, "m", "n")), 0, at(0, tabs(tab(2, 0, "x", "z"), tab(1, 0, "a", "b")), tabs(tab(3, 1, "m", "n")))},
		{"in the order in which they stand", of(tab(1, 0, "x", "z"), tab(2, 0, "a", "b"), tab(3, 1, "m", "n"), tab(4, 1, "c", "d")), 0, at(0, tabs(tab(1, 0, "x", "z"), tab(2, 0, "a", "b")), tabs(tab(3, 1, "m", "n"), tab(4, 1, "c", "d")))},
		{"of two of one number the first", of(tab(5, 1, "x", "x"), tab(4, 1, "c", "d"), tab(4, 1, "a", "b")), 1, at(1, tabs(tab(4, 1, "c", "d")), nil)},
		{"numbers below 0", of(tab(0, 2, "x", "x"), tab(-5, 2, "c", "d"), tab(math.MinInt, 2, "a", "b")), 2, at(2, tabs(tab(math.MinInt, 2, "a", "b")), nil)},
		{"the least First is not the first one's, the greatest Last not the last one's", of(tab(3, 0, "c", "y"), tab(2, 0, "b", "c"), tab(1, 0, "d", "d"), tab(6, 1, "", "az"), tab(5, 1, "b", "b"), tab(4, 1, "y", "z"), tab(7, 1, "za", "zb")), 0, at(0, tabs(tab(3, 0, "c", "y"), tab(2, 0, "b", "c"), tab(1, 0, "d", "d")), tabs(tab(5, 1, "b", "b"), tab(4, 1, "y", "z")))},
	} {
		got, is := Of(c.v, c.level)
		if wanted := len(c.want.From) > 0; is != wanted || !sameJob(got, c.want) {
			t.Errorf("%s: %v, %t, not %v", c.name, got, is, c.want)
		}
	}
	for _, level := range ints() {
		given := of(tab(1, level, "a", "b"))
		got, is := Of(given, level)
		if want := level == 0 || level == 1 || level == 2; is != want || is && !sameJob(got, at(level, given.Tables, nil)) || !is && !reflect.DeepEqual(got, Job{}) {
			t.Errorf("Of a table on level %d: %v, %t", level, got, is)
		}
	}
}

func TestP1502Next(t *testing.T) {
	zero := tabs(sized(4, 0, 1), sized(3, 0, 1), sized(2, 0, 1), sized(1, 0, 1))
	with := func(count, one, two int) edit.Version {
		l := slices.Clone(zero[:count])
		l = append(l, sized(11, 1, one-1), sized(10, 1, 1), sized(21, 2, two-1), sized(20, 2, 1))
		return of(append(l, sized(30, 3, 1<<40))...)
	}
	for _, c := range []struct {
		name  string
		v     edit.Version
		level int // below 0: false
	}{
		{"no table", of(), -1},
		{"three of 0", of(zero[:3]...), -1},
		{"only the last level", of(sized(1, 3, 1<<40), sized(2, 3, 1<<40)), -1},
		{"levels that are none", of(sized(1, 4, 1<<40), sized(2, -1, 1<<40), sized(3, math.MaxInt, math.MaxInt)), -1},
		{"all below 100", with(3, 2999, 29_999), -1},
		{"0 at 100", with(4, 2, 2), 0},
		{"1 at 100", with(3, 3000, 29_999), 1},
		{"2 at 100", with(3, 2999, 30_000), 2},
		{"all at 100", with(4, 3000, 30_000), 0},
		{"1 and 2 at 100", with(3, 3000, 30_000), 1},
		{"1 above 0", with(4, 3030, 30_000), 1},
		{"no whole score above 0", with(4, 3029, 30_299), 0},
		{"2 above all", with(4, 3030, 30_600), 2},
		{"1 above 2", with(4, 3060, 30_300), 1},
		{"1 and 2 above the most", with(4, 1<<60, 1<<62), 1},
		{"2 below 0", with(4, 2, -1<<60), 0},
		{"without any of 0", with(0, 5, 31_000), 2},
	} {
		got, is := Next(c.v)
		want, wanted := plainOf(c.v, c.level)
		if is != wanted || !sameJob(got, want) {
			t.Errorf("%s: %v, %t, not %v", c.name, got, is, want)
		}
		if !is && !reflect.DeepEqual(got, Job{}) {
			t.Errorf("%s: %v beside false", c.name, got)
		}
	}
}

func TestP1502AgainstPlainWords(t *testing.T) {
	r := rand.New(rand.NewSource(1502))
	seen := map[int]int{}
	for range 20_000 {
		v := of(randomTables(r, 14)...)
		for level := -2; level <= api.Levels+1; level++ {
			if got, want := Score(v, level), plainScore(v, level); got != want {
				t.Fatalf("Score(%v, %d): %d, not %d", v, level, got, want)
			}
			got, is := Of(v, level)
			if want, wanted := plainOf(v, level); is != wanted || !sameJob(got, want) {
				t.Fatalf("Of(%v, %d): %v, %t, not %v, %t", v, level, got, is, want, wanted)
			}
		}
		got, is := Next(v)
		if want, wanted := plainNext(v); is != wanted || !sameJob(got, want) {
			t.Fatalf("Next(%v): %v, %t, not %v, %t", v, got, is, want, wanted)
		}
		if is {
			seen[got.Level]++
		} else {
			seen[-1]++
		}
	}
	for _, level := range []int{-1, 0, 1, 2} {
		if seen[level] < 500 {
			t.Errorf("only %d jobs of level %d", seen[level], level)
		}
	}
}

func TestP1503All(t *testing.T) {
	for _, c := range []struct {
		name     string
		given    []api.Table
		from, to []int // places in given
		is       bool
	}{
		{"no table", nil, nil, nil, false},
		{"an empty list", []api.Table{}, nil, nil, false},
		{"of each level", tabs(tab(9, 0, "a", "b"), tab(2, 0, "x", "y"), tab(1, 1, "c", "d"), tab(3, 2, "m", "n"), tab(5, 3, "a", "a"), tab(4, 3, "zz", "zz")), []int{0, 1, 2, 3}, []int{4, 5}, true},
		{"none above the last", tabs(tab(5, 3, "a", "a"), tab(4, 3, "b", "c")), nil, []int{0, 1}, true},
		{"none on the last", tabs(tab(5, 0, "a", "a")), []int{0}, nil, true},
		{"only on 2", tabs(tab(5, 2, "a", "a")), []int{0}, nil, true},
		{"in the order in which they stand", tabs(tab(4, 3, "b", "c"), tab(7, 2, "k", "l"), tab(5, 3, "a", "a"), tab(6, 1, "x", "x"), tab(8, 0, "m", "n"), tab(9, 0, "m", "n")), []int{1, 3, 4, 5}, []int{0, 2}, true},
		{"levels that are none", tabs(tab(1, -1, "a", "b"), tab(2, 4, "a", "b"), tab(3, 1, "a", "b"), tab(4, math.MaxInt, "a", "b"), tab(5, math.MinInt, "a", "b")), []int{2}, nil, true},
		{"a level that is none alone", tabs(tab(1, 4, "a", "b")), nil, nil, true},
	} {
		want := Job{}
		if c.is {
			want.Level = 2
		}
		for _, i := range c.from {
			want.From = append(want.From, c.given[i])
		}
		for _, i := range c.to {
			want.To = append(want.To, c.given[i])
		}
		got, is := All(of(c.given...))
		if is != c.is || !sameJob(got, want) {
			t.Errorf("%s: %v, %t, not %v, %t", c.name, got, is, want, c.is)
		}
		if !is && !reflect.DeepEqual(got, Job{}) {
			t.Errorf("%s: %v beside false", c.name, got)
		}
	}
}

func TestP1504Bottom(t *testing.T) {
	up, down := tab(1, 1, "d", "f"), tab(2, 2, "c", "e")
	j := Job{Level: 1, From: tabs(up), To: tabs(down)} // its ends are c and f
	for _, c := range []struct {
		name string
		more []api.Table
		want bool
	}{
		{"none beside", nil, true},
		{"deeper, below the ends", tabs(tab(3, 3, "a", "bz")), true},
		{"deeper, at the least key", tabs(tab(3, 3, "a", "c")), false},
		{"deeper, within", tabs(tab(3, 3, "dd", "dd")), false},
		{"deeper, around", tabs(tab(3, 3, "a", "z")), false},
		{"deeper, at the greatest key", tabs(tab(3, 3, "f", "z")), false},
		{"deeper, above the ends", tabs(tab(3, 3, "f\x00", "z")), true},
		{"deeper, on both sides", tabs(tab(3, 3, "", "b"), tab(4, 3, "g", "z")), true},
		{"deeper, the last of several", tabs(tab(3, 3, "", "b"), tab(4, 3, "f", "f")), false},
		{"on 0, apart", tabs(tab(3, 0, "", "b"), tab(4, 0, "g", "z")), true},
		{"on 0, at the least key", tabs(tab(3, 0, "", "b"), tab(4, 0, "c", "c")), false},
		{"on 0, at the greatest key", tabs(tab(3, 0, "f", "f")), false},
		{"on its own level, apart", tabs(tab(3, 1, "", "b"), tab(4, 1, "g", "z")), true},
		{"on its own level, beside", tabs(tab(3, 1, "c", "c")), false},
		{"on the next level, apart", tabs(tab(3, 2, "", "b"), tab(4, 2, "g", "z")), true},
		{"on the next level, beside", tabs(tab(4, 2, "f", "z")), false},
		{"on no level, deeper", tabs(tab(4, 9, "d", "d")), false},
		{"on no level, the deepest", tabs(tab(4, math.MaxInt, "d", "d")), false},
		{"on no level, above 0", tabs(tab(4, -1, "d", "d"), tab(5, math.MinInt, "d", "d")), true},
		{"its own table, deeper than it may be", tabs(tab(1, 3, "d", "f")), false},
		{"its own table, once more", tabs(tab(2, 0, "c", "e")), true},
	} {
		v := of(append(tabs(up, down), c.more...)...)
		if got := Bottom(v, j); got != c.want || plainBottom(v, j) != c.want {
			t.Errorf("%s: %t, not %t", c.name, got, c.want)
		}
	}
}

// The ends of a job are those of all its tables, whichever has them.
func TestP1504BottomEnds(t *testing.T) {
	inner, outer := tab(1, 0, "m", "n"), tab(2, 1, "c", "x")
	for _, at := range []string{"c", "d", "x"} {
		v := of(inner, outer, tab(3, 3, at, at))
		for _, j := range []Job{{From: tabs(inner), To: tabs(outer)}, {From: tabs(outer, inner)}, {To: tabs(inner, outer)}, {From: tabs(inner, outer)}} {
			if Bottom(v, j) {
				t.Errorf("Bottom of %v beside a table of %q", j, at)
			}
		}
	}
}

func TestP1504BottomOfWhichLevels(t *testing.T) {
	mine := tab(1, 0, "a", "b")
	for _, level := range ints() {
		j := Job{Level: level, From: tabs(mine)}
		for _, of1 := range ints() {
			beside := tab(2, of1, "b", "c")
			want := of1 < 0 && !(level < of1-1 && of1 > math.MinInt)
			if got := Bottom(of(beside), j); got != want {
				t.Errorf("a job of level %d beside a table of level %d: %t", level, of1, got)
			}
			beside.First, beside.Last = "c", "d"
			if !Bottom(of(beside), j) {
				t.Errorf("a job of level %d beside a table of level %d that is apart: false", level, of1)
			}
			// A table of the job's own counts just where it is deeper than level and 1.
			self := tab(1, of1, "a", "b")
			want = of1 == math.MinInt || of1-1 <= level
			if got := Bottom(of(self), Job{Level: level, To: tabs(self)}); got != want {
				t.Errorf("a job of level %d with a table of level %d: %t", level, of1, got)
			}
		}
	}
}

func TestP1504BottomOfNothing(t *testing.T) {
	v := of(tab(1, 0, "", "\xff"), tab(2, 3, "", "\xff"))
	for _, level := range ints() {
		if !Bottom(v, Job{Level: level}) {
			t.Errorf("a job of level %d without tables: a table is between no keys", level)
		}
		if !Bottom(of(), Job{Level: level, From: tabs(tab(1, 0, "a", "b"))}) {
			t.Errorf("a job of level %d, and no table", level)
		}
	}
}

func TestP1504AgainstPlainWords(t *testing.T) {
	r := rand.New(rand.NewSource(1504))
	seen := map[bool]int{}
	for range 60_000 {
		l := randomTables(r, 6)
		var j Job
		for _, x := range l {
			switch r.Intn(5) {
			case 0:
				j.From = append(j.From, x)
			case 1:
				j.To = append(j.To, x)
			}
		}
		j.Level = r.Intn(5) - 1
		want := plainBottom(of(l...), j)
		if got := Bottom(of(l...), j); got != want {
			t.Fatalf("Bottom(%v, %v): %t", l, j, got)
		}
		seen[want]++
	}
	if seen[true] < 5000 || seen[false] < 5000 {
		t.Errorf("%v: too few of one kind", seen)
	}
}

// With what Bottom says a deletion that goes hides nothing: no table that stays behind the job, elder than it, has a key of it.
func TestP1504BottomIsSafe(t *testing.T) {
	r := rand.New(rand.NewSource(15040))
	bottoms := 0
	for range 3000 {
		v := rightVersion(r)
		for _, j := range jobs(v) {
			if !Bottom(v, j) {
				continue
			}
			bottoms++
			all := slices.Concat(j.From, j.To)
			for _, x := range v.Tables {
				if slices.Contains(all, x) {
					continue
				}
				for _, y := range all {
					if plainBetween(x, y.First, y.Last) {
						t.Fatalf("Bottom(%v, %v), but %v has keys of %v", v, j, x, y)
					}
				}
			}
		}
	}
	if bottoms < 500 {
		t.Errorf("only %d jobs with nothing beside", bottoms)
	}
}

// jobs tells all jobs of a version.
func jobs(v edit.Version) []Job {
	var l []Job
	keep := func(j Job, is bool) {
		if is {
			l = append(l, j)
		}
	}
	keep(Next(v))
	keep(All(v))
	for level := range api.Levels {
		keep(Of(v, level))
	}
	return l
}

func TestP1505ARightVersionStaysRight(t *testing.T) {
	r := rand.New(rand.NewSource(1505))
	done := 0
	for range 4000 {
		v := rightVersion(r)
		for _, j := range jobs(v) {
			done++
			all := slices.Concat(j.From, j.To)
			e := edit.Edit{Next: v.Next + 100}
			for _, x := range all {
				if !slices.Contains(v.Tables, x) || slices.Contains(e.Drop, x.Num) {
					t.Fatalf("%v of %v has %v", j, v, x)
				}
				e.Drop = append(e.Drop, x.Num)
			}
			first, last := plainEnds(all)
			ends := cutKeys(r, first, last, 8)
			if r.Intn(3) == 0 {
				ends = []string{first, last} // all of them in one table
			}
			for i := 0; i < len(ends); i += 2 {
				e.Add = append(e.Add, tab(v.Next+i, j.Level+1, ends[i], ends[i+1]))
			}
			next, err := edit.Apply(v, e)
			if err != api.OK || !edit.Valid(next) {
				t.Fatalf("behind %v of %v, with %v: %v, %d", j, v, e.Add, next, err)
			}
		}
	}
	if done < 8000 {
		t.Errorf("only %d jobs were done", done)
	}
}

// Job by job a version whose sizes stay comes to rest: what was put together goes down.
func TestP1502JobsEnd(t *testing.T) {
	r := rand.New(rand.NewSource(15050))
	for range 300 {
		v := rightVersion(r)
		steps := 0
		for {
			j, is := Next(v)
			if !is {
				break
			}
			if steps++; steps > 1000 {
				t.Fatalf("jobs without an end: %v", v)
			}
			all := slices.Concat(j.From, j.To)
			first, last := plainEnds(all)
			x := api.Table{Num: v.Next, Level: j.Level + 1, First: first, Last: last}
			e := edit.Edit{Next: v.Next + 1}
			for _, y := range all {
				x.Size += y.Size
				e.Drop = append(e.Drop, y.Num)
			}
			e.Add = tabs(x)
			next, err := edit.Apply(v, e)
			if err != api.OK {
				t.Fatalf("behind %v of %v: %d", j, v, err)
			}
			v = next
		}
		for level := range api.Levels {
			if s := Score(v, level); s >= 100 {
				t.Fatalf("%v is at rest, and level %d has a score of %d", v, level, s)
			}
		}
	}
}

// What is handed in is not changed, its spare room neither.
func TestArgumentsStand(t *testing.T) {
	with := func() []api.Table {
		return tabs(tab(4, 0, "c", "d"), tab(3, 0, "a", "b"), tab(7, 1, "x", "y"), tab(2, 1, "a", "c"), tab(6, 2, "b", "b"), tab(9, 2, "d", "e"), tab(8, 3, "a", "a"), tab(77, 0, "spare", "spare"))
	}
	room := with()
	v := of(room[:7]...)
	v.Tables = room[:7]
	from, to := slices.Clone(room[:3]), slices.Clone(room[3:6])
	j := Job{From: from[:1], To: to[:1]}
	for level := -1; level <= api.Levels; level++ {
		Score(v, level)
		Of(v, level)
	}
	Next(v)
	All(v)
	Overlap(v.Tables, "a", "c")
	Bottom(v, j)
	if !slices.Equal(room, with()) {
		t.Errorf("the tables and their room are then %v", room)
	}
	if !slices.Equal(from, room[:3]) || !slices.Equal(to, room[3:6]) {
		t.Errorf("the job's lists and their room are then %v, %v", from, to)
	}
}

// sharedText tells whether two texts stand in the same memory.
func sharedText(a, b string) bool {
	return len(a) > 0 && len(b) > 0 && unsafe.StringData(a) == unsafe.StringData(b)
}

func TestAnswersAreNewMemory(t *testing.T) {
	v := of(tab(4, 0, "c", "d"), tab(3, 0, "a", "b"), tab(1, 0, "a", "b"), tab(2, 0, "a", "b"), tab(7, 1, "b", "c"), tab(6, 2, "b", "b"), tab(8, 3, "a", "b"))
	given := slices.Clone(v.Tables)
	answers := map[string][]api.Table{"Overlap": Overlap(v.Tables, "", "z")}
	keep := func(name string, j Job, is bool) {
		if !is {
			t.Fatalf("%s: no job", name)
		}
		answers[name+"'s From"], answers[name+"'s To"] = j.From, j.To
	}
	next, isNext := Next(v)
	all, isAll := All(v)
	one, isOne := Of(v, 1)
	zero, isZero := Of(v, 0)
	keep("Next", next, isNext)
	keep("All", all, isAll)
	keep("Of 1", one, isOne)
	keep("Of 0", zero, isZero)
	for name, l := range answers {
		if len(l) == 0 {
			t.Errorf("%s: no table", name)
		}
		for _, x := range l {
			for _, y := range v.Tables {
				if sharedText(x.First, y.First) || sharedText(x.First, y.Last) || sharedText(x.Last, y.First) || sharedText(x.Last, y.Last) {
					t.Fatalf("%s answers a text that was handed in", name)
				}
			}
		}
		for i := range l {
			l[i] = api.Table{Num: -1}
		}
		// Neither is its room any other's.
		for range 4 {
			l = append(l, api.Table{Num: -2})
		}
	}
	if !slices.Equal(v.Tables, given) {
		t.Errorf("what was handed in is then %v", v.Tables)
	}
	for name, l := range answers {
		for _, x := range l {
			if x.Num != -1 {
				t.Errorf("%s has %v of another list", name, x)
			}
		}
	}
}

// No call panics, and each says the same when it is asked once more.
func TestEveryCallEnds(t *testing.T) {
	r := rand.New(rand.NewSource(15))
	long := strings.Repeat("k", api.MaxKey+1)
	wild := append(ints(), math.MaxInt32, math.MinInt32)
	any1 := func() int { return wild[r.Intn(len(wild))] }
	for range 3000 {
		var l []api.Table
		for range r.Intn(6) {
			l = append(l, api.Table{Num: any1(), Level: any1(), Size: any1(), First: long[:r.Intn(len(long)+1)], Last: long[:r.Intn(3)]})
		}
		v := edit.Version{Log: any1(), Next: any1(), Seq: r.Uint64(), Tables: l}
		j := Job{Level: any1(), From: randomTables(r, 2), To: l[:r.Intn(len(l)+1)]}
		level := any1()
		ask := func() []any {
			next, isNext := Next(v)
			one, isOne := Of(v, level)
			all, isAll := All(v)
			return []any{Score(v, level), Room(level), next, isNext, one, isOne, all, isAll, Overlap(l, "k", "kk"), Bottom(v, j)}
		}
		if a, b := ask(), ask(); !reflect.DeepEqual(a, b) {
			t.Fatalf("of %v, %v, %d: %v, then %v", v, j, level, a, b)
		}
	}
}
