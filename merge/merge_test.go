package merge

import (
	"cmp"
	"fmt"
	"math"
	"math/rand"
	"slices"
	"strings"
	"testing"
	"unsafe"

	"cornucopia/api"
	"cornucopia/ikey"
)

// put tells a version that has something; its value tells it from others of the same key and number.
func put(key string, seq uint64, value string) api.Entry {
	return api.Entry{Key: key, Seq: seq, Kind: api.KindPut, Value: value}
}

func gone(key string, seq uint64) api.Entry {
	return api.Entry{Key: key, Seq: seq, Kind: api.KindDelete}
}

func list(l ...api.Entry) []api.Entry { return l }

func lists(l ...[]api.Entry) [][]api.Entry { return l }

// plainAll is the promise word by word: all versions, those of the first lists first; of several the first one; in order.
func plainAll(lists [][]api.Entry) []api.Entry {
	var out []api.Entry
	for _, e := range slices.Concat(lists...) {
		if !slices.ContainsFunc(out, func(x api.Entry) bool { return x.Key == e.Key && x.Seq == e.Seq }) {
			out = append(out, e)
		}
	}
	slices.SortFunc(out, func(a, b api.Entry) int {
		return cmp.Or(cmp.Compare(a.Key, b.Key), cmp.Compare(b.Seq, a.Seq))
	})
	return out
}

// plainLatest is the promise word by word, key by key.
func plainLatest(seq uint64, lists [][]api.Entry) []api.Pair {
	all := slices.Concat(lists...)
	var keys []string
	for _, e := range all {
		keys = append(keys, e.Key)
	}
	slices.Sort(keys)
	var out []api.Pair
	for _, key := range slices.Compact(keys) {
		if e, is := ikey.Pick(all, key, seq); is && e.Kind != api.KindDelete {
			out = append(out, api.Pair{Key: e.Key, Value: e.Value})
		}
	}
	return out
}

// everyList tells every list in order of the versions of two keys with numbers below most. A version's value tells the list's name; those of odd numbers are deletions, if odd.
func everyList(name string, most uint64, odd bool) [][]api.Entry {
	all := lists(nil)
	for _, key := range []string{"", "a"} {
		for i := range most {
			seq := most - 1 - i
			e := put(key, seq, name)
			if odd == (seq%2 == 1) {
				e = gone(key, seq)
			}
			for _, l := range slices.Clone(all) {
				all = append(all, append(slices.Clone(l), e))
			}
		}
	}
	return all
}

// manyLists tells lists of versions in order, with many that several of them have.
func manyLists(random *rand.Rand, count, most int) [][]api.Entry {
	out := make([][]api.Entry, count)
	for i := range out {
		var l []api.Entry
		for n := range random.Intn(most + 1) {
			e := put(fmt.Sprint("k", random.Intn(40)), uint64(random.Intn(12)), fmt.Sprint(i, " ", n))
			if random.Intn(3) == 0 {
				e = gone(e.Key, e.Seq)
			}
			l = append(l, e)
		}
		slices.SortFunc(l, ikey.Compare)
		out[i] = slices.CompactFunc(l, func(a, b api.Entry) bool { return ikey.Compare(a, b) == 0 })
	}
	return out
}

// holds holds All and Latest of some lists against the chapter.
func holds(t *testing.T, l [][]api.Entry) {
	t.Helper()
	if got, want := All(l...), plainAll(l); !slices.Equal(got, want) {
		t.Fatalf("All(%v): %v, not %v", l, got, want)
	}
	for _, seq := range []uint64{0, 1, 2, 3, 6, 11, math.MaxUint64} {
		if got, want := Latest(seq, l...), plainLatest(seq, l); !slices.Equal(got, want) {
			t.Fatalf("Latest(%d, %v): %v, not %v", seq, l, got, want)
		}
	}
}

func TestP1401OfEveryTwoLists(t *testing.T) {
	firsts, seconds := everyList("first", 3, true), everyList("second", 3, false)
	for _, a := range firsts {
		holds(t, lists(a))
		for _, b := range seconds {
			holds(t, lists(a, b))
		}
	}
}

func TestP1401OfEveryThreeLists(t *testing.T) {
	firsts, seconds, thirds := everyList("first", 2, true), everyList("second", 2, false), everyList("third", 2, true)
	for _, a := range firsts {
		for _, b := range seconds {
			for _, c := range thirds {
				holds(t, lists(a, b, c))
			}
		}
	}
}

func TestP1401OfManyLists(t *testing.T) {
	random := rand.New(rand.NewSource(14))
	for range 60 {
		holds(t, manyLists(random, 1+random.Intn(40), 60))
	}
	holds(t, manyLists(random, 400, 20))
}

func TestP1401All(t *testing.T) {
	most := uint64(math.MaxUint64)
	for _, c := range []struct {
		given [][]api.Entry
		want  []api.Entry
	}{
		{nil, nil},
		{lists(nil), nil},
		{lists(nil, list(), nil), nil},
		{lists(nil, list(put("a", 1, "x")), nil), list(put("a", 1, "x"))},
		// The greater number comes first, whatever its list and kind.
		{lists(list(put("a", 1, "")), list(gone("a", 2))), list(gone("a", 2), put("a", 1, ""))},
		{lists(list(gone("a", most), put("a", 0, "")), list(put("a", 1<<63, ""))), list(gone("a", most), put("a", 1<<63, ""), put("a", 0, ""))},
		// Keys stand in the order of their bytes, and ahead of numbers.
		{
			lists(list(put("\xff", 9, "")), list(put("é", 1, "")), list(put("", 0, ""), put("b", 9, "")), list(put("a\x00", 7, ""), put("aa", 8, "")), list(put("a", 1, ""))),
			list(put("", 0, ""), put("a", 1, ""), put("a\x00", 7, ""), put("aa", 8, ""), put("b", 9, ""), put("é", 1, ""), put("\xff", 9, "")),
		},
		// Of several the one of the first list that has one, whatever else it says.
		{lists(list(put("a", 1, "x")), list(put("a", 1, "y")), list(gone("a", 1))), list(put("a", 1, "x"))},
		{lists(nil, list(gone("a", 1)), list(put("a", 1, "y")), list(put("a", 1, "x"))), list(gone("a", 1))},
		{lists(list(put("b", 1, "x")), list(put("a", 1, "y"), put("b", 1, "y")), list(put("a", 1, "z"))), list(put("a", 1, "y"), put("b", 1, "x"))},
		{lists(list(put("a", 1, "x"), put("a", 1, "y"))), list(put("a", 1, "x"))},
		{lists(list(put("a", 2, "")), list(put("a", 1, "x"), put("a", 1, "y")), list(put("a", 1, "z"))), list(put("a", 2, ""), put("a", 1, "x"))},
		// A key and a number that are the same bytes, put otherwise.
		{lists(list(put("a1", 2, "")), list(put("a", 12, ""))), list(put("a", 12, ""), put("a1", 2, ""))},
		// It does not ask whether a version is right.
		{
			lists(list(api.Entry{}), list(api.Entry{Key: "a", Kind: -7, Value: "v"}), list(api.Entry{Key: "b", Kind: api.KindDelete, Value: "v"}), list(put(strings.Repeat("k", api.MaxKey+1), 1, ""))),
			list(api.Entry{}, api.Entry{Key: "a", Kind: -7, Value: "v"}, api.Entry{Key: "b", Kind: api.KindDelete, Value: "v"}, put(strings.Repeat("k", api.MaxKey+1), 1, "")),
		},
	} {
		if got := All(c.given...); !slices.Equal(got, c.want) {
			t.Errorf("All(%.200v): %.200v, not %.200v", c.given, got, c.want)
		}
	}
}

func TestP1401Latest(t *testing.T) {
	most := uint64(math.MaxUint64)
	pairs := func(l ...api.Pair) []api.Pair { return l }
	a := lists(list(put("a", 7, "seven"), gone("a", 5), put("a", 3, "three")), list(put("", 4, "none"), put("b", most, "most"), put("b", 0, "")))
	for _, c := range []struct {
		seq   uint64
		given [][]api.Entry
		want  []api.Pair
	}{
		{most, nil, nil},
		{most, lists(nil, list()), nil},
		{0, a, pairs(api.Pair{Key: "b"})},
		{2, a, pairs(api.Pair{Key: "b"})},
		{3, a, pairs(api.Pair{Key: "a", Value: "three"}, api.Pair{Key: "b"})},
		{4, a, pairs(api.Pair{Value: "none"}, api.Pair{Key: "a", Value: "three"}, api.Pair{Key: "b"})},
		{5, a, pairs(api.Pair{Value: "none"}, api.Pair{Key: "b"})},
		{6, a, pairs(api.Pair{Value: "none"}, api.Pair{Key: "b"})},
		{7, a, pairs(api.Pair{Value: "none"}, api.Pair{Key: "a", Value: "seven"}, api.Pair{Key: "b"})},
		{most - 1, a, pairs(api.Pair{Value: "none"}, api.Pair{Key: "a", Value: "seven"}, api.Pair{Key: "b"})},
		{most, a, pairs(api.Pair{Value: "none"}, api.Pair{Key: "a", Value: "seven"}, api.Pair{Key: "b", Value: "most"})},
		// Of several of one number the one of the first list, a deletion too.
		{1, lists(list(gone("a", 1)), list(put("a", 1, "x"))), nil},
		{1, lists(list(put("a", 1, "x")), list(gone("a", 1))), pairs(api.Pair{Key: "a", Value: "x"})},
		{9, lists(list(put("a", 1, "x")), list(put("a", 1, "y"))), pairs(api.Pair{Key: "a", Value: "x"})},
		// A newer list says nothing of itself: numbers do.
		{9, lists(list(put("a", 1, "old")), list(put("a", 2, "new"))), pairs(api.Pair{Key: "a", Value: "new"})},
		// What is behind a deletion of another key is still told.
		{9, lists(list(gone("a", 9), put("aa", 1, "x"))), pairs(api.Pair{Key: "aa", Value: "x"})},
		{9, lists(list(gone("", 9), put("", 1, "x"))), nil},
		// Only a deletion is one.
		{9, lists(list(api.Entry{}, api.Entry{Key: "a", Kind: 3, Value: "v"}, api.Entry{Key: "b", Kind: api.KindDelete, Value: "v"})), pairs(api.Pair{}, api.Pair{Key: "a", Value: "v"})},
	} {
		if got := Latest(c.seq, c.given...); !slices.Equal(got, c.want) {
			t.Errorf("Latest(%d, %v): %v, not %v", c.seq, c.given, got, c.want)
		}
	}
}

func TestP1401Example(t *testing.T) {
	got := Latest(2, list(put("a", 3, "")), list(gone("a", 1), put("b", 2, "")))
	if !slices.Equal(got, []api.Pair{{Key: "b"}}) {
		t.Errorf("the chapter's example: %v", got)
	}
}

// plainCut is the promise word by word.
func plainCut(most int, l []api.Entry) [][]api.Entry {
	if most < 1 {
		most = 1
	}
	var out [][]api.Entry
	for i, e := range l {
		if i == 0 || len(out[len(out)-1]) >= most && e.Key != l[i-1].Key {
			out = append(out, nil)
		}
		out[len(out)-1] = append(out[len(out)-1], e)
	}
	return out
}

// keyLists tells lists in order of up to four keys, of each of which there are none to three versions.
func keyLists() [][]api.Entry {
	all := lists(nil)
	for _, key := range []string{"", "a", "b", "c"} {
		var next [][]api.Entry
		for _, l := range all {
			for count := range 4 {
				more := slices.Clone(l)
				for i := range count {
					more = append(more, put(key, uint64(count-i), key))
				}
				next = append(next, more)
			}
		}
		all = next
	}
	return all
}

func sameCut(a, b [][]api.Entry) bool {
	return slices.EqualFunc(a, b, func(x, y []api.Entry) bool { return slices.Equal(x, y) })
}

func TestP1402Cut(t *testing.T) {
	a3, a2, a1, b1, c1, d1 := put("a", 3, "x"), gone("a", 2), put("a", 1, ""), put("b", 1, ""), gone("c", 1), put("d", 1, "")
	l := list(a3, a2, a1, b1, c1, d1)
	single := lists(list(a3, a2, a1), list(b1), list(c1), list(d1))
	for _, c := range []struct {
		most int
		want [][]api.Entry
	}{
		{math.MinInt, single}, {-1, single}, {0, single}, {1, single},
		{2, lists(list(a3, a2, a1), list(b1, c1), list(d1))},
		{3, lists(list(a3, a2, a1), list(b1, c1, d1))},
		{4, lists(list(a3, a2, a1, b1), list(c1, d1))},
		{5, lists(list(a3, a2, a1, b1, c1), list(d1))},
		{6, lists(l)}, {7, lists(l)}, {math.MaxInt, lists(l)},
	} {
		if got := Cut(c.most, l); !sameCut(got, c.want) {
			t.Errorf("Cut(%d): %v, not %v", c.most, got, c.want)
		}
	}
	for _, most := range []int{math.MinInt, 0, 1, 9, math.MaxInt} {
		if got := Cut(most, nil); len(got) > 0 {
			t.Errorf("Cut(%d) of no versions: %v", most, got)
		}
		if got := Cut(most, list(api.Entry{})); !sameCut(got, lists(list(api.Entry{}))) {
			t.Errorf("Cut(%d) of a zero version: %v", most, got)
		}
	}
}

func TestP1402CutOfEveryList(t *testing.T) {
	for _, l := range keyLists() {
		for most := -2; most <= 14; most++ {
			if got, want := Cut(most, l), plainCut(most, l); !sameCut(got, want) {
				t.Fatalf("Cut(%d, %v): %v, not %v", most, l, got, want)
			}
		}
	}
}

func TestP1403PiecesAreTheList(t *testing.T) {
	given := keyLists()
	random := rand.New(rand.NewSource(1403))
	for range 20 {
		given = append(given, All(manyLists(random, 20, 40)...))
	}
	for _, l := range given {
		for _, most := range []int{math.MinInt, 0, 1, 2, 3, 5, 40, math.MaxInt} {
			pieces := Cut(most, l)
			if !slices.Equal(slices.Concat(pieces...), l) {
				t.Fatalf("Cut(%d, %v): %v", most, l, pieces)
			}
			where := map[string]int{}
			for i, piece := range pieces {
				if len(piece) == 0 {
					t.Fatalf("Cut(%d, %v): an empty piece", most, l)
				}
				for _, e := range piece {
					if at, is := where[e.Key]; is && at != i {
						t.Fatalf("Cut(%d, %v): %q stands in pieces %d and %d", most, l, e.Key, at, i)
					}
					where[e.Key] = i
				}
			}
		}
	}
}

// TestOutOfOrder: nothing is promised of such lists, but that a call ends, and no version is made up.
func TestOutOfOrder(t *testing.T) {
	l := lists(list(put("b", 1, "x"), put("a", 1, "x"), put("b", 1, "y"), put("a", 2, "x")), list(put("c", 1, "z"), put("a", 1, "z"), put("c", 2, "z")))
	all := All(l...)
	slices.SortFunc(all, ikey.Compare)
	if want := list(put("a", 2, "x"), put("a", 1, "x"), put("b", 1, "x"), put("c", 2, "z"), put("c", 1, "z")); !slices.Equal(all, want) {
		t.Errorf("All, sorted: %v, not %v", all, want)
	}
	for seq := range uint64(4) {
		for _, p := range Latest(seq, l...) {
			if !slices.ContainsFunc(all, func(e api.Entry) bool { return e.Key == p.Key && e.Value == p.Value }) {
				t.Errorf("Latest(%d) tells %v", seq, p)
			}
		}
	}
	for _, x := range l {
		if got := slices.Concat(Cut(2, x)...); !slices.Equal(got, x) {
			t.Errorf("the pieces of %v are %v", x, got)
		}
	}
}

// withRoom tells lists with spare room, which holds a version too.
func withRoom() [][]api.Entry {
	var out [][]api.Entry
	for _, l := range lists(list(put("a", 3, "x"), put("b", 1, "y")), list(gone("a", 2), put("a", 1, "z"), put("c", 1, "w")), nil) {
		out = append(out, append(l, put("spare", 1, "room"))[:len(l)])
	}
	return append(out, nil)[:len(out)]
}

func TestArgumentsStand(t *testing.T) {
	given := withRoom()
	All(given...)
	Latest(2, given...)
	for _, l := range given {
		Cut(1, l)
	}
	for i, l := range withRoom() {
		if whole := given[i][:len(l)+1]; !slices.Equal(whole, l[:len(l)+1]) {
			t.Errorf("list %d and its room are then %v", i, whole)
		}
	}
	if room := given[:len(given)+1]; room[len(given)] != nil {
		t.Errorf("the room of the lists is then %v", room[len(given)])
	}
}

// shares tells whether two texts stand in the same memory.
func shares(a, b string) bool {
	return len(a) > 0 && len(b) > 0 && unsafe.StringData(a) == unsafe.StringData(b)
}

func TestAnswersAreNewMemory(t *testing.T) {
	l := list(put("key", 2, "value"), put("other", 1, "more"))
	all, latest, pieces := All(l), Latest(9, l), Cut(1, l)
	for i, e := range l {
		for what, x := range map[string]api.Entry{"All": all[i], "Cut": pieces[i][0]} {
			if shares(x.Key, e.Key) || shares(x.Value, e.Value) {
				t.Errorf("%s answers texts that were handed in", what)
			}
		}
		if shares(latest[i].Key, e.Key) || shares(latest[i].Value, e.Value) {
			t.Error("Latest answers texts that were handed in")
		}
	}
	if &all[0] == &l[0] || &pieces[0][0] == &l[0] {
		t.Error("a list that was handed in is answered")
	}
	// No piece has the next one as its spare room.
	_ = append(pieces[0], put("spare", 1, "room"))
	if pieces[1][0] != l[1] {
		t.Errorf("the second piece is then %v", pieces[1])
	}
}
