package mem

import (
	"cmp"
	"fmt"
	"math"
	"slices"
	"strings"
	"testing"
	"unsafe"

	"cornucopia/api"
	"cornucopia/ikey"
	"cornucopia/skip"
	"cornucopia/wal"
)

func put(key, value string) api.Write { return api.Write{Key: key, Value: value} }

func del(key string) api.Write { return api.Write{Key: key, Del: true} }

func has(key string, seq uint64, value string) api.Entry {
	return api.Entry{Key: key, Seq: seq, Kind: api.KindPut, Value: value}
}

func gone(key string, seq uint64) api.Entry {
	return api.Entry{Key: key, Seq: seq, Kind: api.KindDelete}
}

var (
	longKey   = strings.Repeat("k", api.MaxKey)
	longValue = strings.Repeat("v", api.MaxData)
)

// plain is the chapter word by word: versions, in order.
type plain struct {
	versions []api.Entry
	last     uint64
}

func (p *plain) add(first uint64, l ...api.Write) (uint64, api.Errno) {
	if _, e := wal.PutBatch(wal.Batch{First: first, Writes: l}); e != api.OK {
		return 0, e
	}
	if first <= p.last || first > 1<<62 || first+uint64(len(l)) > 1<<62 {
		return 0, api.ErrArg
	}
	for _, w := range l {
		e := has(w.Key, first, w.Value)
		if w.Del {
			e = gone(w.Key, first)
		}
		p.versions = append(p.versions, e)
		p.last = first
		first++
	}
	slices.SortFunc(p.versions, func(a, b api.Entry) int {
		return cmp.Or(cmp.Compare(a.Key, b.Key), cmp.Compare(b.Seq, a.Seq))
	})
	return first, api.OK
}

func (p plain) between(from, to string) []api.Entry {
	var out []api.Entry
	for _, e := range p.versions {
		if e.Key >= from && (to == "" || e.Key < to) {
			out = append(out, e)
		}
	}
	return out
}

func (p plain) size() int {
	n := 0
	for _, e := range p.versions {
		n += len(e.Key) + len(e.Value) + 16
	}
	return n
}

// holds holds all that a table tells, at keys and numbers, to a plain one.
func holds(t *testing.T, m *Table, p plain, keys []string, seqs []uint64) {
	t.Helper()
	if n, size, last := m.Len(), m.Size(), m.Last(); n != len(p.versions) || size != p.size() || last != p.last {
		t.Fatalf("Len, Size and Last of %.200v: %d, %d, %d", p, n, size, last)
	}
	for _, from := range keys {
		for _, to := range keys {
			if got := m.Range(from, to); !slices.Equal(got, p.between(from, to)) {
				t.Fatalf("Range(%.20q, %.20q) of %.200v: %.200v", from, to, p, got)
			}
		}
		for _, seq := range seqs {
			want, wantIs := ikey.Pick(p.versions, from, seq)
			if got, is := m.Get(from, seq); got != want || is != wantIs {
				t.Fatalf("Get(%.20q, %d) of %.200v: %.40v, %t, not %.40v, %t", from, seq, p, got, is, want, wantIs)
			}
		}
	}
}

// someKeys and someSeqs are asked for, whatever is there.
func someKeys() []string {
	return []string{"", "\x00", "a", "a\x00", "aa", "ab", "b", "c", "é", "\xff", "\xff\xff", longKey[1:], longKey, longKey + "k"}
}

func someSeqs() []uint64 {
	return []uint64{0, 1, 2, 3, 4, 5, 7, 8, 9, 20, 21, 1<<62 - 2, 1<<62 - 1, 1 << 62, 1 << 63, math.MaxUint64}
}

// step is a batch that is added.
type step struct {
	first  uint64
	writes []api.Write
}

// right are batches that a table takes, one behind the other.
func right() []step {
	return []step{
		{1, []api.Write{put("b", "x")}},
		{2, []api.Write{put("a", ""), del("a"), put("a", "y")}},
		{7, []api.Write{del("b"), put("", "none"), put("\xff", "\xff\x00")}},
		{20, []api.Write{put(longKey, longValue), del(longKey), del("never")}},
		{1 << 61, []api.Write{put("a\x00", "z"), put("é", "é"), del("")}},
		{1<<62 - 3, []api.Write{put("b", "w"), put("aa", ""), put("\x00", "last")}},
	}
}

// tooLong is a batch of writes each of which is right.
func tooLong() []api.Write {
	return slices.Repeat([]api.Write{put("k", longValue)}, api.MaxBatch/api.MaxData+1)
}

// adds adds a batch to both, and holds the answers against each other.
func adds(t *testing.T, m *Table, p *plain, s step) {
	t.Helper()
	want, wantErr := p.add(s.first, s.writes...)
	if got, e := m.Add(s.first, s.writes...); got != want || e != wantErr {
		t.Fatalf("Add(%d, %.200v): %d, %d, not %d, %d", s.first, s.writes, got, e, want, wantErr)
	}
}

// levels tells the towers of versions, by their keys, each of which has one.
func levels(m *Table) map[string]int {
	out := map[string]int{}
	all := m.list.All()
	for i, e := range all {
		next := e.Key + "\x00"
		if i+1 < len(all) {
			next = all[i+1].Key
		}
		ahead := m.list.Path(e.Key)
		for level, n := range m.list.Path(next) {
			out[e.Key] += n - ahead[level]
		}
	}
	return out
}

func TestExample(t *testing.T) {
	m := New()
	if n, e := m.Add(5, put("a", ""), del("a")); n != 7 || e != api.OK {
		t.Errorf("Add: %d, %d", n, e)
	}
	if e, is := m.Get("a", 5); e != has("a", 5, "") || !is {
		t.Errorf("Get at 5: %v, %t", e, is)
	}
	if e, is := m.Get("a", 6); e != gone("a", 6) || !is {
		t.Errorf("Get at 6: %v, %t", e, is)
	}
	if n := m.Size(); n != 34 {
		t.Errorf("Size: %d", n)
	}
}

func TestP801New(t *testing.T) {
	for _, draws := range [][]int{nil, {1}, {3, 2}, {math.MinInt, 0, math.MaxInt}} {
		holds(t, New(draws...), plain{}, someKeys(), someSeqs())
	}
	if New() == nil || New() == New() {
		t.Error("New makes no new table")
	}
}

func TestP801Add(t *testing.T) {
	m, p := New(2, 1, 9), plain{}
	for _, s := range right() {
		adds(t, m, &p, s)
		holds(t, m, p, someKeys(), someSeqs())
	}
	if m.Last() != 1<<62-1 || m.Len() != 16 {
		t.Errorf("Last, Len: %d, %d", m.Last(), m.Len())
	}
}

func TestP801AddTellsTheSeqBehind(t *testing.T) {
	m := New()
	for _, c := range []struct {
		first       uint64
		count       int
		next, after uint64
	}{{3, 1, 4, 3}, {4, 2, 6, 5}, {100, 3, 103, 102}, {103, 1, 104, 103}} {
		next, e := m.Add(c.first, slices.Repeat([]api.Write{put("a", "x")}, c.count)...)
		if next != c.next || e != api.OK || m.Last() != c.after {
			t.Errorf("Add(%d) of %d: %d, %d; Last %d", c.first, c.count, next, e, m.Last())
		}
	}
	want := []api.Entry{has("a", 103, "x"), has("a", 102, "x"), has("a", 101, "x"), has("a", 100, "x"), has("a", 5, "x"), has("a", 4, "x"), has("a", 3, "x")}
	if got := m.Range("", ""); !slices.Equal(got, want) {
		t.Errorf("Range: %v", got)
	}
}

func TestP801AddWrong(t *testing.T) {
	a := put("a", "x")
	// Last is 20.
	wrong := []struct {
		step
		want api.Errno
	}{
		{step{21, nil}, api.ErrArg},
		{step{21, []api.Write{put(longKey+"k", "")}}, api.ErrArg},
		{step{21, []api.Write{del(longKey + "k")}}, api.ErrArg},
		{step{21, []api.Write{put("k", longValue+"v")}}, api.ErrArg},
		{step{21, []api.Write{{Key: "k", Value: "v", Del: true}}}, api.ErrArg},
		{step{21, []api.Write{a, a, put(longKey+"k", "")}}, api.ErrArg},
		{step{21, tooLong()}, api.ErrLong},
		{step{0, []api.Write{a}}, api.ErrArg},
		{step{1, []api.Write{a}}, api.ErrArg},
		{step{19, []api.Write{a, a, a}}, api.ErrArg},
		{step{20, []api.Write{a}}, api.ErrArg},
		{step{1<<62 - 1, []api.Write{a, a}}, api.ErrArg},
		{step{1<<62 - 2, []api.Write{a, a, a}}, api.ErrArg},
		{step{1 << 62, []api.Write{a}}, api.ErrArg},
		{step{1<<62 + 1, []api.Write{a}}, api.ErrArg},
		{step{1 << 63, []api.Write{a}}, api.ErrArg},
		{step{math.MaxUint64 - 1, []api.Write{a, a}}, api.ErrArg},
		{step{math.MaxUint64, []api.Write{a}}, api.ErrArg},
		{step{math.MaxUint64, []api.Write{a, a}}, api.ErrArg},
		// The batch's error comes first.
		{step{0, tooLong()}, api.ErrLong},
		{step{20, tooLong()}, api.ErrLong},
		{step{math.MaxUint64, tooLong()}, api.ErrLong},
	}
	m, p := New(3, 2), plain{}
	adds(t, m, &p, step{20, []api.Write{put("b", "y")}})
	for _, c := range wrong {
		if n, e := m.Add(c.first, c.writes...); n != 0 || e != c.want {
			t.Errorf("Add(%d, %.100v): %d, %d, not %d", c.first, c.writes, n, e, c.want)
		}
		holds(t, m, p, append(someKeys(), "k"), someSeqs())
	}
	adds(t, m, &p, step{21, []api.Write{put("c", "z")}})
	holds(t, m, p, someKeys(), someSeqs())
}

func TestP801NoSeqIsNought(t *testing.T) {
	m := New()
	if n, e := m.Add(0, put("a", "x")); n != 0 || e != api.ErrArg || m.Len() != 0 {
		t.Errorf("Add(0): %d, %d", n, e)
	}
	if n, e := m.Add(1, put("a", "x")); n != 2 || e != api.OK || m.Last() != 1 {
		t.Errorf("Add(1): %d, %d", n, e)
	}
}

func TestP801TheEnd(t *testing.T) {
	for count := range 5 {
		writes := slices.Repeat([]api.Write{put("a", "x")}, count+1)
		first := uint64(1<<62 - len(writes))
		m := New()
		if n, e := m.Add(first+1, writes...); n != 0 || e != api.ErrArg || m.Last() != 0 {
			t.Errorf("Add(%d) of %d: %d, %d", first+1, len(writes), n, e)
		}
		if n, e := m.Add(first, writes...); n != 1<<62 || e != api.OK || m.Last() != 1<<62-1 {
			t.Errorf("Add(%d) of %d: %d, %d", first, len(writes), n, e)
		}
		if n, e := m.Add(1<<62, writes[0]); n != 0 || e != api.ErrArg || m.Len() != len(writes) {
			t.Errorf("Add behind the end: %d, %d", n, e)
		}
	}
}

func TestP801GreatBatch(t *testing.T) {
	writes := tooLong()
	writes = writes[:len(writes)-1]
	m := New(1, 2)
	if n, e := m.Add(1, writes...); n != uint64(len(writes))+1 || e != api.OK {
		t.Errorf("Add: %d, %d", n, e)
	}
	if n := m.Size(); m.Len() != len(writes) || n != len(writes)*(1+api.MaxData+16) {
		t.Errorf("Size: %d", n)
	}
}

func TestP801Draws(t *testing.T) {
	for _, c := range []struct{ draws, want []int }{
		{nil, []int{1, 1, 1, 1, 1, 1, 1}},
		{[]int{1}, []int{1, 1, 1, 1, 1, 1, 1}},
		{[]int{3}, []int{3, 3, 3, 3, 3, 3, 3}},
		{[]int{2, 1}, []int{2, 1, 2, 1, 2, 1, 2}},
		{[]int{2, 1, 9}, []int{2, 1, 8, 2, 1, 8, 2}},
		{[]int{1, 2, 3, 4, 5, 6, 7}, []int{1, 2, 3, 4, 5, 6, 7}},
		{[]int{8, 7, 6, 5, 4, 3, 2, 1}, []int{8, 7, 6, 5, 4, 3, 2}},
		{[]int{-1, 0, math.MinInt, math.MaxInt, 1 << 32}, []int{1, 1, 1, 8, 8, 1, 1}},
	} {
		m := New(c.draws...)
		// They go on from batch to batch, and what is refused takes none.
		m.Add(9, put("d", ""), put("b", ""))
		m.Add(10, put("x", ""))
		m.Add(11, put("x", ""), put(longKey+"k", ""))
		m.Add(11)
		m.Add(20, put("c", ""))
		m.Add(21, del("a"), put("g", ""), put("f", ""), put("e", ""))
		got := levels(m)
		for i, key := range []string{"d", "b", "c", "a", "g", "f", "e"} {
			if got[key] != c.want[i] {
				t.Errorf("draws %d: level %d of the version %d, not %d", c.draws, got[key], i+1, c.want[i])
			}
		}
	}
}

func TestP801DrawsPlayNoPart(t *testing.T) {
	for _, draws := range [][]int{nil, {0}, {8}, {1, 2, 3}, {5, 1, 1, 1, math.MaxInt}, {math.MinInt}} {
		m, p := New(draws...), plain{}
		for _, s := range right() {
			adds(t, m, &p, s)
		}
		holds(t, m, p, someKeys(), someSeqs())
	}
}

func TestP802Get(t *testing.T) {
	m := New(1, 3)
	m.Add(3, put("a", "x"), put("ab", "z"), put("a", "y"))
	m.Add(7, del("a"), put("", "none"))
	none := api.Entry{}
	for _, c := range []struct {
		key  string
		seq  uint64
		want api.Entry
	}{
		{"a", 0, none}, {"a", 2, none}, {"a", 3, has("a", 3, "x")}, {"a", 4, has("a", 3, "x")}, {"a", 5, has("a", 5, "y")},
		{"a", 6, has("a", 5, "y")}, {"a", 7, gone("a", 7)}, {"a", math.MaxUint64, gone("a", 7)}, {"aa", 9, none}, {"ab", 3, none},
		{"ab", 4, has("ab", 4, "z")}, {"", 7, none}, {"", 8, has("", 8, "none")}, {"b", 9, none}, {longKey + "k", 9, none},
	} {
		if e, is := m.Get(c.key, c.seq); e != c.want || is != (c.want != none) {
			t.Errorf("Get(%.20q, %d): %v, %t, not %v", c.key, c.seq, e, is, c.want)
		}
	}
}

func TestP802Range(t *testing.T) {
	m := New(2, 1)
	m.Add(1, put("c", "3"), put("b", "2"), put("a", "1"))
	m.Add(9, del("b"), put("", "0"), put("bb", "4"))
	all := []api.Entry{has("", 10, "0"), has("a", 3, "1"), gone("b", 9), has("b", 2, "2"), has("bb", 11, "4"), has("c", 1, "3")}
	for _, c := range []struct {
		from, to string
		want     []api.Entry
	}{
		{"", "", all}, {"", "d", all}, {"", "c\x00", all}, {"", "c", all[:5]}, {"", "\x00", all[:1]}, {"\x00", "", all[1:]},
		{"a", "b", all[1:2]}, {"a", "b\x00", all[1:4]}, {"b", "bb", all[2:4]}, {"b", "c", all[2:5]}, {"b", "", all[2:]},
		{"aa", "bc", all[2:5]}, {"c", "", all[5:]}, {"c", "d", all[5:]}, {"c\x00", "", nil}, {"d", "", nil}, {"d", "e", nil},
		{"a", "a", nil}, {"b", "b", nil}, {"c", "a", nil}, {"b", "a\xff", nil}, {"b\x00", "bb", nil}, {"", longKey + "k", all}, {longKey + "k", "", nil},
	} {
		if got := m.Range(c.from, c.to); !slices.Equal(got, c.want) {
			t.Errorf("Range(%.20q, %.20q): %v, not %v", c.from, c.to, got, c.want)
		}
	}
}

func TestP802SizeAndLen(t *testing.T) {
	m := New()
	for i, c := range []struct {
		write api.Write
		size  int
	}{
		{put("", ""), 16}, {del(""), 16}, {put("key", ""), 19}, {put("", "value"), 21}, {put("key", "value"), 24}, {del("key"), 19},
		{put("é", "\xff\x00"), 20}, {put(longKey, longValue), api.MaxKey + api.MaxData + 16}, {put("key", "value"), 24},
	} {
		ahead := m.Size()
		m.Add(uint64(i)+1, c.write)
		if n := m.Size() - ahead; n != c.size || m.Len() != i+1 {
			t.Errorf("of %.40v: %d more; Len %d", c.write, n, m.Len())
		}
	}
}

func TestP802ManyBatches(t *testing.T) {
	for seed := range uint32(8) {
		x := seed
		draw := func(n uint32) int {
			x = x*1664525 + 1013904223
			return int(x >> 16 % n)
		}
		m, p := New(draw(9), draw(9), draw(9), 1), plain{}
		for range 60 {
			s := step{first: m.Last() + uint64(draw(4))}
			for range draw(6) {
				w := put(fmt.Sprint(draw(20)), fmt.Sprint(draw(1000)))
				if draw(3) == 0 {
					w = del(w.Key)
				}
				s.writes = append(s.writes, w)
			}
			adds(t, m, &p, s)
		}
		holds(t, m, p, []string{"", "0", "1", "10", "11", "15", "19", "2", "3", "7", "9", "99"}, []uint64{0, 1, 2, 9, 30, 60, 100, 200, m.Last(), m.Last() + 1})
	}
}

func TestP803Zero(t *testing.T) {
	var m Table
	p := plain{}
	holds(t, &m, p, someKeys(), someSeqs())
	for _, s := range append([]step{{0, []api.Write{put("a", "")}}, {1, nil}}, right()...) {
		adds(t, &m, &p, s)
		holds(t, &m, p, someKeys(), someSeqs())
	}
	if h := m.list.Height(); h != 1 {
		t.Errorf("levels: %d", h)
	}
}

func TestP803Nil(t *testing.T) {
	var m *Table
	for _, s := range append([]step{{0, nil}, {1, tooLong()}, {math.MaxUint64, nil}}, right()...) {
		if n, e := m.Add(s.first, s.writes...); n != 0 || e != api.ErrArg {
			t.Errorf("Add(%d, %.100v): %d, %d", s.first, s.writes, n, e)
		}
	}
	holds(t, m, plain{}, someKeys(), someSeqs())
}

// shares tells whether two texts stand in the same memory.
func shares(a, b string) bool {
	return len(a) > 0 && len(b) > 0 && unsafe.StringData(a) == unsafe.StringData(b)
}

func TestMemoryIsNotShared(t *testing.T) {
	key, value := strings.Clone("key"), strings.Clone("value")
	writes := make([]api.Write, 1, 4)
	writes[0] = put(key, value)
	m := New()
	m.Add(1, writes...)
	if spare := writes[:4]; writes[0] != put("key", "value") || spare[1] != (api.Write{}) {
		t.Errorf("behind Add: %v", spare)
	}
	writes[0] = del("other")
	got, _ := m.Get(key, 1)
	again := m.Range(key, "")[0]
	for _, e := range []api.Entry{got, again} {
		if e != has("key", 1, "value") || shares(e.Key, key) || shares(e.Value, value) {
			t.Errorf("an answer: %v", e)
		}
	}
	if shares(got.Key, again.Key) || shares(got.Value, again.Value) {
		t.Error("answers share what is kept")
	}
	l := m.Range("", "")
	l[0] = gone("other", 2)
	if e, is := m.Get("key", 1); e != has("key", 1, "value") || !is {
		t.Errorf("behind a change of an answer: %v", e)
	}
}

func TestDrawsAreNotKept(t *testing.T) {
	draws := []int{2, 1}
	m := New(draws...)
	draws[0], draws[1] = skip.Most, skip.Most
	m.Add(1, put("a", ""), put("b", ""), put("c", ""))
	if got := levels(m); got["a"] != 2 || got["b"] != 1 || got["c"] != 2 {
		t.Errorf("levels: %v", got)
	}
	if draws[0] != skip.Most || draws[1] != skip.Most {
		t.Errorf("draws: %d", draws)
	}
}
