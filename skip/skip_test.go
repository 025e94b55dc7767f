package skip

import (
	"cmp"
	"fmt"
	"math"
	"slices"
	"strings"
	"testing"
	"unsafe"

	"cornucopia/api"
	"cornucopia/ikey"
)

// put tells a version that has something; its value tells it from others of the same key and number.
func put(key string, seq uint64, value string) api.Entry {
	return api.Entry{Key: key, Seq: seq, Kind: api.KindPut, Value: value}
}

func gone(key string, seq uint64) api.Entry {
	return api.Entry{Key: key, Seq: seq, Kind: api.KindDelete}
}

var (
	longKey   = strings.Repeat("k", api.MaxKey)
	longValue = strings.Repeat("v", api.MaxData)
)

// tower is a version and its level.
type tower struct {
	entry api.Entry
	level int
}

// plain is the chapter word by word: towers, in order.
type plain []tower

func (p *plain) put(e api.Entry, level int) bool {
	if !ikey.Valid(e) {
		return false
	}
	for _, t := range *p {
		if t.entry.Key == e.Key && t.entry.Seq == e.Seq {
			return false
		}
	}
	*p = append(*p, tower{e, min(max(level, 1), 8)})
	slices.SortFunc(*p, func(a, b tower) int {
		return cmp.Or(cmp.Compare(a.entry.Key, b.entry.Key), cmp.Compare(b.entry.Seq, a.entry.Seq))
	})
	return true
}

func (p plain) from(key string) []api.Entry {
	var out []api.Entry
	for _, t := range p {
		if t.entry.Key >= key {
			out = append(out, t.entry)
		}
	}
	return out
}

func (p plain) height() int {
	n := 0
	for _, t := range p {
		n = max(n, t.level)
	}
	return n
}

func (p plain) path(key string) []int {
	var out []int
	for level := p.height(); level >= 1; level-- {
		n := 0
		for _, t := range p {
			if t.level >= level && t.entry.Key < key {
				n++
			}
		}
		out = append(out, n)
	}
	return out
}

// holds holds all that a list tells, at keys and numbers, to a plain one.
func holds(t *testing.T, l *List, p plain, keys []string, seqs []uint64) {
	t.Helper()
	all := p.from("")
	if got := l.All(); !slices.Equal(got, all) {
		t.Fatalf("All of %.200v: %.200v", p, got)
	}
	if n, h := l.Len(), l.Height(); n != len(p) || h != p.height() {
		t.Fatalf("Len and Height of %.200v: %d, %d", p, n, h)
	}
	for _, key := range keys {
		if got := l.From(key); !slices.Equal(got, p.from(key)) {
			t.Fatalf("From(%.20q) of %.200v: %.200v", key, p, got)
		}
		if got := l.Path(key); !slices.Equal(got, p.path(key)) {
			t.Fatalf("Path(%.20q) of %.200v: %d, not %d", key, p, got, p.path(key))
		}
		for _, seq := range seqs {
			want, wantIs := ikey.Pick(all, key, seq)
			if got, is := l.Get(key, seq); got != want || is != wantIs {
				t.Fatalf("Get(%.20q, %d) of %.200v: %.40v, %t, not %.40v, %t", key, seq, p, got, is, want, wantIs)
			}
		}
	}
}

// someKeys and someSeqs are asked for, whatever is there.
func someKeys() []string {
	return []string{"", "\x00", "a", "a\x00", "aa", "ab", "b", "c", "é", "\xff", "\xff\xff", longKey[1:], longKey, longKey + "k", longKey + longKey}
}

func someSeqs() []uint64 {
	return []uint64{0, 1, 2, 3, 5, 7, 1<<63 - 1, 1 << 63, math.MaxUint64 - 1, math.MaxUint64}
}

// right are versions that are right, none twice, in no order, and levels of theirs.
func right() []tower {
	return []tower{
		{put("a", 3, "x"), 2}, {put("b", 1<<63, ""), 1}, {gone("a", 5), 3}, {put("", 0, "none"), 1},
		{put("a", math.MaxUint64, "most"), 1}, {gone("a", 0), 4}, {put("aa", 7, "y"), 8}, {put("\xff", 1, "z"), 2},
		{put("a\x00", 2, ""), 1}, {gone("\xff\xff", 1), 5}, {put("é", 1, "é"), 1}, {put("\x00", 3, "\x00"), 3},
		{put("b", 1<<63-1, "w"), 1}, {put("", math.MaxUint64, ""), 2}, {put(longKey, 2, longValue), 6}, {gone(longKey, 3), 1},
		{gone(longKey[1:], 9), 1}, {put("B", 1, "B"), 7},
	}
}

// wrong are versions that are not.
func wrong() []api.Entry {
	return []api.Entry{
		{},
		{Key: "k", Seq: 1, Value: "v"},
		{Key: "k", Seq: 1, Kind: 3},
		{Key: "k", Seq: 1, Kind: -1, Value: "v"},
		{Key: "k", Seq: 1, Kind: math.MaxInt},
		{Key: "k", Seq: 1, Kind: math.MinInt | api.KindPut},
		{Key: "k", Seq: 1, Kind: api.KindDelete, Value: "v"},
		{Key: longKey + "k", Kind: api.KindPut},
		{Key: longKey + "k", Kind: api.KindDelete},
		{Key: "k", Kind: api.KindPut, Value: longValue + "v"},
		{Key: "k", Kind: api.KindDelete, Value: longValue + "v"},
	}
}

func TestExample(t *testing.T) {
	l := New()
	if !l.Put(put("a", 1, ""), 1) || !l.Put(put("b", 1, ""), 2) {
		t.Error("Put: false")
	}
	if got := l.Path("c"); !slices.Equal(got, []int{1, 2}) {
		t.Errorf("Path: %d", got)
	}
	if e, is := l.Get("a", 9); e != put("a", 1, "") || !is {
		t.Errorf("Get: %v, %t", e, is)
	}
}

func TestP701Put(t *testing.T) {
	l, p := New(), plain{}
	holds(t, l, p, someKeys(), someSeqs())
	for _, c := range right() {
		p.put(c.entry, c.level)
		if !l.Put(c.entry, c.level) {
			t.Errorf("Put(%.40v, %d): false", c.entry, c.level)
		}
		holds(t, l, p, someKeys(), someSeqs())
	}
}

func TestP701PutInOrder(t *testing.T) {
	l := New()
	for _, e := range []api.Entry{put("b", 2, ""), gone("a", 1), put("b", 9, "x"), put("ab", 0, ""), put("a", 7, "")} {
		l.Put(e, 1)
	}
	want := []api.Entry{put("a", 7, ""), gone("a", 1), put("ab", 0, ""), put("b", 9, "x"), put("b", 2, "")}
	if got := l.All(); !slices.Equal(got, want) {
		t.Errorf("All: %v", got)
	}
	if got := l.From("aa"); !slices.Equal(got, want[2:]) {
		t.Errorf("From: %v", got)
	}
}

func TestP701PutWrong(t *testing.T) {
	l, p := New(), plain{}
	for i := range 2 {
		for _, e := range wrong() {
			if l.Put(e, Most) {
				t.Errorf("Put(%.40v): true", e)
			}
		}
		holds(t, l, p, append(someKeys(), "k"), someSeqs())
		if i == 0 {
			for _, c := range right()[:6] {
				l.Put(c.entry, c.level)
				p.put(c.entry, c.level)
			}
		}
	}
}

func TestP701PutTwice(t *testing.T) {
	l, p := New(), plain{}
	for _, c := range right() {
		if c.level > 4 {
			continue
		}
		l.Put(c.entry, c.level)
		p.put(c.entry, c.level)
	}
	for _, c := range p {
		for _, e := range []api.Entry{c.entry, put(c.entry.Key, c.entry.Seq, "other"), gone(c.entry.Key, c.entry.Seq)} {
			for _, level := range []int{-1, c.level, Most} {
				if l.Put(e, level) {
					t.Errorf("Put(%.40v, %d) where one is: true", e, level)
				}
			}
		}
	}
	holds(t, l, p, someKeys(), someSeqs())
}

func TestP701Levels(t *testing.T) {
	if Most != 8 {
		t.Errorf("Most: %d", Most)
	}
	for _, c := range []struct{ level, want int }{
		{math.MinInt, 1}, {-1 << 32, 1}, {-8, 1}, {-1, 1}, {0, 1}, {1, 1}, {2, 2}, {3, 3}, {4, 4}, {5, 5}, {6, 6}, {7, 7},
		{8, 8}, {9, 8}, {256, 8}, {257, 8}, {1<<32 | 1, 8}, {math.MaxInt, 8},
	} {
		l := New()
		if !l.Put(put("a", 1, ""), c.level) || l.Height() != c.want || len(l.Path("b")) != c.want {
			t.Errorf("Put of level %d: Height %d, Path %d", c.level, l.Height(), l.Path("b"))
		}
		for range 2 {
			l.Put(put("b", 1, ""), 2)
			if h := l.Height(); h != max(2, c.want) {
				t.Errorf("of levels %d and 2: Height %d", c.level, h)
			}
		}
	}
}

func TestBetween(t *testing.T) {
	l, p := New(), plain{}
	for _, c := range right() {
		l.Put(c.entry, c.level)
		p.put(c.entry, c.level)
	}
	for _, from := range someKeys() {
		for _, to := range someKeys() {
			want := p.from(from)
			if to != "" {
				want = slices.DeleteFunc(want, func(e api.Entry) bool { return e.Key >= to })
			}
			if got := l.Between(from, to); !slices.Equal(got, want) {
				t.Errorf("Between(%.20q, %.20q): %.200v", from, to, got)
			}
			if got := (*List)(nil).Between(from, to); len(got) > 0 {
				t.Errorf("Between(%.20q, %.20q) of nil: %v", from, to, got)
			}
		}
	}
}

func TestP702Get(t *testing.T) {
	l := New()
	for _, e := range []api.Entry{put("a", 3, "x"), gone("a", 7), put("a", 5, "y"), put("ab", 4, "z"), put("", 2, "none"), put("c", math.MaxUint64, "most")} {
		l.Put(e, int(e.Seq%3))
	}
	none := api.Entry{}
	for _, c := range []struct {
		key  string
		seq  uint64
		want api.Entry
	}{
		{"a", 2, none}, {"a", 3, put("a", 3, "x")}, {"a", 4, put("a", 3, "x")}, {"a", 5, put("a", 5, "y")}, {"a", 6, put("a", 5, "y")},
		{"a", 7, gone("a", 7)}, {"a", math.MaxUint64, gone("a", 7)}, {"a", 0, none}, {"aa", math.MaxUint64, none}, {"ab", 3, none},
		{"ab", 4, put("ab", 4, "z")}, {"", 1, none}, {"", 2, put("", 2, "none")}, {"b", 9, none},
		{"c", math.MaxUint64 - 1, none}, {"c", math.MaxUint64, put("c", math.MaxUint64, "most")}, {"d", math.MaxUint64, none},
		{longKey + "k", math.MaxUint64, none},
	} {
		if e, is := l.Get(c.key, c.seq); e != c.want || is != (c.want != none) {
			t.Errorf("Get(%.20q, %d): %v, %t, not %v", c.key, c.seq, e, is, c.want)
		}
	}
}

func TestP703Path(t *testing.T) {
	l := New()
	for _, c := range []tower{
		{put("a", 9, ""), 1}, {put("a", 2, ""), 3}, {put("b", 1, ""), 2}, {put("c", 8, ""), 1}, {put("c", 7, ""), 3}, {put("c", 6, ""), 1}, {gone("d", 1), 5},
	} {
		l.Put(c.entry, c.level)
	}
	for key, want := range map[string][]int{
		"": {0, 0, 0, 0, 0}, "a": {0, 0, 0, 0, 0}, "a\x00": {0, 0, 1, 1, 2}, "b": {0, 0, 1, 1, 2}, "bb": {0, 0, 1, 2, 3}, "c": {0, 0, 1, 2, 3},
		"cc": {0, 0, 2, 3, 6}, "d": {0, 0, 2, 3, 6}, "dd": {1, 1, 3, 4, 7}, "\xff": {1, 1, 3, 4, 7}, longKey + "k": {1, 1, 3, 4, 7},
	} {
		if got := l.Path(key); !slices.Equal(got, want) {
			t.Errorf("Path(%.20q): %d, not %d", key, got, want)
		}
	}
	if got := New().Path("a"); len(got) > 0 {
		t.Errorf("of none: %d", got)
	}
}

// orders tells every order of the numbers below n.
func orders(n int) [][]int {
	if n == 0 {
		return [][]int{nil}
	}
	var out [][]int
	for _, l := range orders(n - 1) {
		for i := range n {
			out = append(out, slices.Insert(slices.Clone(l), i, n-1))
		}
	}
	return out
}

func TestP704LevelsPlayNoPart(t *testing.T) {
	versions := []api.Entry{put("a", 3, "x"), gone("a", 1), put("b", 2, "y"), put("c", 0, "z")}
	levels := []int{1, 2, 3, Most}
	for _, order := range orders(len(versions)) {
		for draw := range 256 { // every level of each of the four
			l, p, flat := New(), plain{}, New()
			for i, at := range order {
				level := levels[draw>>(2*i)%4]
				if !l.Put(versions[at], level) || !p.put(versions[at], level) || !flat.Put(versions[at], 1) {
					t.Fatalf("Put(%v, %d): false", versions[at], level)
				}
			}
			if !slices.Equal(l.All(), versions) || !slices.Equal(flat.All(), versions) || l.Len() != 4 {
				t.Fatalf("All of %v: %v", p, l.All())
			}
			holds(t, l, p, []string{"", "a", "aa", "b", "c", "d"}, []uint64{0, 1, 2, 3, 4})
		}
	}
}

func TestP704ManyDraws(t *testing.T) {
	for seed := range uint32(8) {
		l, p := New(), plain{}
		x := seed
		draw := func(n uint32) int {
			x = x*1664525 + 1013904223
			return int(x >> 16 % n)
		}
		var keys []string
		for i := range 30 {
			keys = append(keys, fmt.Sprint(i))
		}
		for range 300 {
			e := put(keys[draw(30)], uint64(draw(12)), fmt.Sprint(draw(9)))
			level := draw(12) - 2
			if got, want := l.Put(e, level), p.put(e, level); got != want {
				t.Fatalf("Put(%v, %d): %t", e, level, got)
			}
		}
		holds(t, l, p, keys, []uint64{0, 1, 4, 7, 11, 12})
	}
}

func TestP704Zero(t *testing.T) {
	var l List
	p := plain{}
	holds(t, &l, p, someKeys(), someSeqs())
	for _, c := range right() {
		if !l.Put(c.entry, c.level) {
			t.Errorf("Put(%.40v): false", c.entry)
		}
		p.put(c.entry, c.level)
	}
	holds(t, &l, p, someKeys(), someSeqs())
	if New() == nil || New() == New() {
		t.Error("New makes no new list")
	}
}

func TestP704Nil(t *testing.T) {
	var l *List
	for _, c := range right() {
		if l.Put(c.entry, c.level) {
			t.Errorf("Put(%.40v): true", c.entry)
		}
	}
	holds(t, l, nil, someKeys(), someSeqs())
}

// shares tells whether two texts stand in the same memory.
func shares(a, b string) bool {
	return len(a) > 0 && len(b) > 0 && unsafe.StringData(a) == unsafe.StringData(b)
}

func TestMemoryIsNotShared(t *testing.T) {
	e, key := put(strings.Clone("key"), 1, strings.Clone("value")), strings.Clone("key")
	l := New()
	l.Put(e, 2)
	kept := l.head.next[0].entry
	if shares(kept.Key, e.Key) || shares(kept.Value, e.Value) {
		t.Error("Put keeps texts that were handed in")
	}
	got, _ := l.Get(key, 1)
	if shares(got.Key, key) {
		t.Error("Get answers the key that was handed in")
	}
	for _, a := range []api.Entry{got, l.All()[0], l.From(key)[0]} {
		if shares(a.Key, kept.Key) || shares(a.Value, kept.Value) {
			t.Error("an answer shares the texts that are kept")
		}
	}
	for _, tell := range []func() []api.Entry{l.All, func() []api.Entry { return l.From("k") }} {
		got := tell()
		got[0] = gone("other", 2)
		_ = append(got[:0], gone("other", 3))
		if again := tell(); !slices.Equal(again, []api.Entry{e}) {
			t.Errorf("behind a change of an answer: %v", again)
		}
	}
	path := l.Path("z")
	path[0] = 99
	if again := l.Path("z"); !slices.Equal(again, []int{1, 1}) {
		t.Errorf("behind a change of a path: %d", again)
	}
}
