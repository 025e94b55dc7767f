package edit

import (
	"cmp"
	"slices"
	"strings"

	"cornucopia/api"
)

const (
	mostNum  = 100_000_000 // of the numbers of files: they have eight digits
	mostSeq  = 1 << 62
	mostSize = 1 << 40
)

// Version says which tables there are.
type Version struct {
	Log, Next int
	Seq       uint64
	Tables    []api.Table
}

// Apply applies an edit.
func Apply(v Version, e Edit) (Version, api.Errno) {
	tables, ok := without(v.Tables, e.Drop)
	if !ok {
		return Version{}, api.ErrForm
	}
	tables = append(tables, e.Add...)
	slices.SortFunc(tables, compare)
	next := Version{
		Log:    max(v.Log, e.Log),
		Next:   max(v.Next, e.Next),
		Seq:    max(v.Seq, e.Seq),
		Tables: tables,
	}
	if !isRight(next) {
		return Version{}, api.ErrForm
	}
	next.Tables = Fresh(tables)
	return next, api.OK
}

// Whole tells the edit that makes a version of nothing.
func Whole(v Version) Edit {
	return Edit{Log: v.Log, Next: v.Next, Seq: v.Seq, Add: Fresh(v.Tables)}
}

// Valid tells whether a version is right, in whatever order its tables stand.
func Valid(v Version) bool {
	v.Tables = slices.Clone(v.Tables)
	slices.SortFunc(v.Tables, compare)
	return isRight(v)
}

// What is to become of a table that is there; a number without a fate is not there.
const (
	stays = iota + 1
	goes
)

// without tells, as a new list, the tables but those of the numbers; false, if one of the numbers is not there.
func without(l []api.Table, nums []int) ([]api.Table, bool) {
	fates := map[int]int{}
	for _, t := range l {
		fates[t.Num] = stays
	}
	for _, n := range nums {
		if fates[n] == 0 {
			return nil, false
		}
		fates[n] = goes
	}
	var left []api.Table
	for _, t := range l {
		if fates[t.Num] == stays {
			left = append(left, t)
		}
	}
	return left, true
}

// compare tells how two tables stand in a version: on level 0 the newer one comes first, as its versions hide those of the older.
func compare(a, b api.Table) int {
	if a.Level == 0 && b.Level == 0 {
		return cmp.Compare(b.Num, a.Num)
	}
	return cmp.Or(cmp.Compare(a.Level, b.Level), cmp.Compare(a.First, b.First))
}

// isRight tells whether a version whose tables stand in order is right.
func isRight(v Version) bool {
	if !isFrom(0, v.Log, mostNum) || !isFrom(0, v.Next, mostNum) || v.Seq > mostSeq {
		return false
	}
	there := map[int]struct{}{}
	for i, t := range v.Tables {
		if !isTable(t, v.Next) || i > 0 && !isApart(v.Tables[i-1], t) {
			return false
		}
		if _, twice := there[t.Num]; twice {
			return false
		}
		there[t.Num] = struct{}{}
	}
	return true
}

func isTable(t api.Table, next int) bool {
	return isFrom(0, t.Num, next-1) && isFrom(0, t.Level, api.Levels-1) && isFrom(1, t.Size, mostSize) &&
		t.First <= t.Last && len(t.First) <= api.MaxKey && len(t.Last) <= api.MaxKey
}

// isApart tells whether a table and the next one may have the keys they have.
func isApart(t, next api.Table) bool {
	return t.Level == 0 || t.Level != next.Level || t.Last < next.First
}

func isFrom(least, n, most int) bool { return least <= n && n <= most }

// Fresh tells the same tables in memory of their own.
func Fresh(l []api.Table) []api.Table {
	l = slices.Clone(l)
	for i, t := range l {
		l[i].First, l[i].Last = strings.Clone(t.First), strings.Clone(t.Last)
	}
	return l
}
