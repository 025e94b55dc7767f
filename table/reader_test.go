package table

import (
	"fmt"
	"math"
	"slices"
	"strings"
	"testing"
	"unsafe"

	"cornucopia/api"
	"cornucopia/block"
	"cornucopia/bloom"
	"cornucopia/ikey"
)

// lists are versions of several shapes.
func lists() map[string][]api.Entry {
	l := map[string][]api.Entry{"mixed": mixed(), "one key": nil}
	for i := range 30 {
		l["one key"] = append(l["one key"], put("b", uint64(60-2*i), fmt.Sprint(i)))
	}
	for _, n := range []int{1, 2, 7, 8, 9, 15, 16, 17, 40} {
		l[fmt.Sprint("many ", n)] = many(n)
	}
	return l
}

// keysNear are the keys of l, and such as stand just ahead and behind.
func keysNear(l []api.Entry) []string {
	keys := []string{"", "\x00", "a", "b", "k", "z", "\xff", longKey + "k"}
	for _, e := range l {
		keys = append(keys, e.Key, e.Key+"\x00", e.Key+"x")
		if e.Key != "" {
			keys = append(keys, e.Key[:len(e.Key)-1])
		}
	}
	slices.Sort(keys)
	return slices.Compact(keys)
}

var numbersNear = []uint64{0, 1, 2, 3, 8, 9, 10, 11, 30, 31, 59, 60, 495, 500, 843, 844, 845, 900, 1 << 63, math.MaxUint64}

func chunks(l []api.Entry) [][]api.Entry { return slices.Collect(slices.Chunk(l, 8)) }

// mayHave tells, by what an index says, whether a block may have a key from from on, below to.
func mayHave(l []api.Entry, i int, from, to string) bool {
	blocks := chunks(l)
	least, most := blocks[i][0].Key, l[len(l)-1].Key
	if i+1 < len(blocks) {
		most = blocks[i+1][0].Key
	}
	for _, key := range []string{from, least} {
		if key >= from && key >= least && key <= most && (to == "" || key < to) {
			return true
		}
	}
	return false
}

// holds tells how many blocks have versions of a key.
func holds(l []api.Entry, key string) int {
	count := 0
	for _, part := range chunks(l) {
		if slices.ContainsFunc(part, func(e api.Entry) bool { return e.Key == key }) {
			count++
		}
	}
	return count
}

// between are the versions of keys from from on, below to.
func between(l []api.Entry, from, to string) []api.Entry {
	return slices.DeleteFunc(slices.Clone(l), func(e api.Entry) bool { return e.Key < from || to != "" && e.Key >= to })
}

// spoilt is the table of l, with a byte of one of its blocks turned.
func spoilt(l []api.Entry, i int) string {
	at := 0
	for _, part := range chunks(l)[:i] {
		b, _ := block.Put(part...)
		at += len(b)
	}
	return turned(plain(l).whole(), at+3, 1)
}

func TestP1103Get(t *testing.T) {
	for what, l := range lists() {
		r := lays(t, l...)
		for _, key := range keysNear(l) {
			for _, seq := range numbersNear {
				want, there := ikey.Pick(l, key, seq)
				if v, is, e := r.Get(key, seq); v != want || is != there || e != api.OK {
					t.Fatalf("%s: Get(%.20q, %d): %v, %v, %d, not %v, %v", what, key, seq, v, is, e, want, there)
				}
			}
		}
	}
}

func TestP1103Range(t *testing.T) {
	for what, l := range lists() {
		r := lays(t, l...)
		keys := keysNear(l)
		for _, from := range keys {
			for _, to := range keys {
				if got, e := r.Range(from, to); !slices.Equal(got, between(l, from, to)) || e != api.OK {
					t.Fatalf("%s: Range(%.20q, %.20q): %v, %d", what, from, to, got, e)
				}
			}
		}
	}
}

func TestP1103RangeReads(t *testing.T) {
	for what, l := range lists() {
		r := lays(t, l...)
		keys := keysNear(l)
		for _, from := range keys {
			for _, to := range keys {
				want := 0
				for i := range r.Blocks() {
					if mayHave(l, i, from, to) {
						want++
					}
				}
				was := r.Read()
				r.Range(from, to)
				if got := r.Read() - was; got != want {
					t.Fatalf("%s: Range(%.20q, %.20q): %d blocks were read, not %d", what, from, to, got, want)
				}
			}
		}
	}
}

func TestP1103GetReads(t *testing.T) {
	for what, l := range lists() {
		r := lays(t, l...)
		filter := plain(l).filter
		for _, key := range keysNear(l) {
			for _, seq := range numbersNear {
				was := r.Read()
				r.Get(key, seq)
				got, most := r.Read()-was, holds(l, key)+2
				if key < l[0].Key || key > l[len(l)-1].Key || !bloom.May(filter, key) {
					most = 0
				}
				if got > most {
					t.Fatalf("%s: Get(%.20q, %d): %d blocks were read, %d have the key", what, key, seq, got, holds(l, key))
				}
			}
		}
	}
}

func TestP1103WhatGetReads(t *testing.T) {
	// A block that is spoilt shows who reads it.
	for what, l := range lists() {
		for i, part := range chunks(l) {
			r := opened(t, spoilt(l, i))
			for _, key := range keysNear(l) {
				for _, seq := range numbersNear {
					want, there := ikey.Pick(l, key, seq)
					v, is, e := r.Get(key, seq)
					switch {
					case e == api.ErrSum && v == (api.Entry{}) && !is && mayHave(l, i, key, key+"\x00"):
					case e != api.OK || v != want || is != there:
						t.Fatalf("%s, block %d: Get(%.20q, %d): %v, %v, %d", what, i, key, seq, v, is, e)
					case there && slices.Contains(part, want):
						t.Fatalf("%s, block %d: Get(%.20q, %d) is of a spoilt block", what, i, key, seq)
					}
				}
			}
		}
	}
}

func TestP1103WhatRangeReads(t *testing.T) {
	for what, l := range lists() {
		keys := keysNear(l)
		for i := range chunks(l) {
			r := opened(t, spoilt(l, i))
			for _, from := range keys {
				for _, to := range keys {
					want, errno := between(l, from, to), api.OK
					if mayHave(l, i, from, to) {
						want, errno = nil, api.ErrSum
					}
					if got, e := r.Range(from, to); !slices.Equal(got, want) || e != errno {
						t.Fatalf("%s, block %d: Range(%.20q, %.20q): %d versions, %d, not %d, %d", what, i, from, to, len(got), e, len(want), errno)
					}
				}
			}
		}
	}
}

func TestP1103FilterIsAsked(t *testing.T) {
	l := many(20)
	p := plain(l)
	none, _ := bloom.Make(Bits, Probes)
	r := opened(t, pieces{p.blocks, none, p.index}.whole())
	for _, key := range keysNear(l) {
		if v, is, e := r.Get(key, 99); v != (api.Entry{}) || is || e != api.OK {
			t.Errorf("a filter that says no: Get(%.20q): %v, %v, %d", key, v, is, e)
		}
	}
	if r.Read() != 0 {
		t.Errorf("a filter that says no: %d blocks were read", r.Read())
	}
	// A range is not asked of the filter.
	if got, e := r.Range("k0003", "k0005"); !slices.Equal(got, l[6:10]) || e != api.OK {
		t.Errorf("a filter that says no: Range: %v, %d", got, e)
	}
	r = opened(t, pieces{p.blocks, strings.Repeat("\xff", len(p.filter)-1) + "\x04", p.index}.whole())
	for key, want := range map[string]int{
		"": 0, "k": 0, "k0000": 1, "k0000x": 1, "k0003": 1, "k0003x": 1, "k0004": 2, "k0004x": 1, "k0007x": 1, "k0008": 2, "k0008x": 1, "k0009": 1, "k0009x": 0, "z": 0,
	} {
		was := r.Read()
		got, there := ikey.Pick(l, key, 99)
		if v, is, e := r.Get(key, 99); v != got || is != there || e != api.OK || r.Read()-was > want || (want == 0) != (r.Read() == was) {
			t.Errorf("a filter that says yes: Get(%q): %v, %v, %d, %d blocks", key, v, is, e, r.Read()-was)
		}
	}
}

func TestP1103ABlocksErrorIsTold(t *testing.T) {
	l := many(20)
	p := plain(l)
	one, _ := block.Put(l[:8]...)
	three, _ := block.Put(l[16:]...)
	for what, c := range map[string]struct {
		second string
		want   api.Errno
	}{
		"nothing":                {"", api.ErrShort},
		"three bytes":            {"abc", api.ErrShort},
		"what is not sealed":     {"abcdefgh", api.ErrSum},
		"what is sealed, and no": {seal("abcdefgh"), api.ErrForm},
		"sealed nothing":         {seal(""), api.ErrForm},
	} {
		blocks := one + c.second + three
		at := len(one) + len(c.second)
		s := index(3, []any{"k0000", 0, len(one), "k0004", len(one), len(c.second), "k0008", at, len(three)}, 20, "k0009")
		r := opened(t, pieces{blocks, p.filter, s}.whole())
		for key, want := range map[string]api.Errno{"k0000": api.OK, "k0005": c.want, "k0006": c.want, "k0009": api.OK} {
			was := r.Read()
			v, is, e := r.Get(key, 99)
			if e != want || is != (want == api.OK) || (v != api.Entry{}) != is || r.Read() != was+1 {
				t.Errorf("%s: Get(%s): %v, %v, %d, %d blocks", what, key, v, is, e, r.Read()-was)
			}
		}
		was := r.Read()
		if got, e := r.Range("", ""); len(got) != 0 || e != c.want || r.Read() != was+2 {
			t.Errorf("%s: Range: %v, %d, %d blocks", what, got, e, r.Read()-was)
		}
		if got, e := r.Range("k0001", "k0004"); !slices.Equal(got, l[2:8]) || e != api.OK {
			t.Errorf("%s: Range ahead of it: %v, %d", what, got, e)
		}
	}
}

func TestP1103OtherBlocks(t *testing.T) {
	// Blocks are taken as they are, even if they are not what the index says: only what was asked for is told.
	l := many(20)
	p := plain(l)
	one, _ := block.Put(put("a", 1, ""), put("k0001", 3, "x"), put("z", 1, ""))
	empty, _ := block.Put()
	s := index(2, []any{"k0000", 0, len(one), "k0001", len(one), len(empty)}, 16, "k0002")
	r := opened(t, pieces{one + empty, p.filter, s}.whole())
	if v, is, e := r.Get("k0001", 9); v != put("k0001", 3, "x") || !is || e != api.OK {
		t.Errorf("Get: %v, %v, %d", v, is, e)
	}
	if v, is, e := r.Get("k0000", 9); v != (api.Entry{}) || is || e != api.OK {
		t.Errorf("Get: %v, %v, %d", v, is, e)
	}
	if got, e := r.Range("k", "l"); !slices.Equal(got, []api.Entry{put("k0001", 3, "x")}) || e != api.OK {
		t.Errorf("Range: %v, %d", got, e)
	}
}

func TestP1103Numbers(t *testing.T) {
	for what, l := range lists() {
		r := lays(t, l...)
		first, last := r.Ends()
		if r.Len() != len(l) || r.Blocks() != len(chunks(l)) || first != l[0].Key || last != l[len(l)-1].Key || r.Read() != 0 {
			t.Errorf("%s: Len %d, Blocks %d, Ends %.20q, %.20q, Read %d", what, r.Len(), r.Blocks(), first, last, r.Read())
		}
	}
}

func TestP1103ReadsAreCounted(t *testing.T) {
	r := lays(t, many(40)...)
	other := lays(t, many(40)...)
	for i := range 5 {
		r.Range("", "")
		r.Get("k0001", 10)
		if r.Read() != 6*(i+1) {
			t.Errorf("behind %d rounds: %d", i+1, r.Read())
		}
	}
	if other.Read() != 0 {
		t.Errorf("another reader: %d", other.Read())
	}
}

func TestP1103AnswersAreNewMemory(t *testing.T) {
	r := lays(t, many(20)...)
	at := func(s string) *byte { return unsafe.StringData(s) }
	first, last := r.Ends()
	first2, last2 := r.Ends()
	if at(first) == at(first2) || at(last) == at(last2) {
		t.Error("Ends shares memory")
	}
	l, _ := r.Range("", "")
	l2, _ := r.Range("", "")
	for i := range l {
		if at(l[i].Key) == at(l2[i].Key) || at(l[i].Value) == at(l2[i].Value) {
			t.Errorf("Range shares memory: %d", i)
		}
	}
	l[0].Key = "changed"
	if v, is, _ := r.Get("k0000", 10); !is || v != l2[0] {
		t.Errorf("Get: %v, %v", v, is)
	}
	if l3, _ := r.Range("", ""); !slices.Equal(l3, l2) {
		t.Error("Range hangs on an answer")
	}
}

func TestP1104WhatWasPut(t *testing.T) {
	// All lists of some of these, ten times over, so that they fill blocks.
	all := []string{"", "a", "a\x00", "ab", "b", "c"}
	for set := 1; set < 1<<len(all); set++ {
		var l []api.Entry
		for i, key := range all {
			if set>>i&1 == 0 {
				continue
			}
			for n := range 10 - i {
				l = append(l, put(key, uint64(100-n), fmt.Sprint(i, n)))
			}
		}
		r := lays(t, l...)
		for _, v := range l {
			was := r.Read()
			got, is, e := r.Get(v.Key, v.Seq)
			if got != v || !is || e != api.OK || r.Read()-was > holds(l, v.Key)+2 {
				t.Fatalf("Get(%q, %d): %v, %v, %d, %d blocks", v.Key, v.Seq, got, is, e, r.Read()-was)
			}
		}
		if got, e := r.Range("", ""); !slices.Equal(got, l) || e != api.OK {
			t.Fatalf("Range: %v, %d", got, e)
		}
	}
}

func TestP1104KeysThatAreNotThere(t *testing.T) {
	l := many(400)
	r := lays(t, l...)
	filter := plain(l).filter
	errs, count := 0, 2000
	for i := range count {
		key := fmt.Sprintf("k%04dx%d", i%200, i)
		was := r.Read()
		if v, is, e := r.Get(key, math.MaxUint64); v != (api.Entry{}) || is || e != api.OK {
			t.Fatalf("Get(%q): %v, %v, %d", key, v, is, e)
		}
		if bloom.May(filter, key) {
			errs++
		} else if r.Read() != was {
			t.Fatalf("Get(%q): %d blocks", key, r.Read()-was)
		}
	}
	if errs > count/20 || r.Read() > 2*errs {
		t.Errorf("of %d keys the filter errs %d times, with %d blocks", count, errs, r.Read())
	}
}

func TestP1104NoReader(t *testing.T) {
	for what, r := range map[string]*Reader{"nil": nil, "zero": {}} {
		v, is, e := r.Get("", math.MaxUint64)
		l, e2 := r.Range("", "")
		first, last := r.Ends()
		if v != (api.Entry{}) || is || e != api.ErrArg || len(l) != 0 || e2 != api.ErrArg {
			t.Errorf("%s: Get %v, %v, %d, Range %v, %d", what, v, is, e, l, e2)
		}
		if first != "" || last != "" || r.Len() != 0 || r.Blocks() != 0 || r.Read() != 0 {
			t.Errorf("%s: Ends %q, %q, Len %d, Blocks %d, Read %d", what, first, last, r.Len(), r.Blocks(), r.Read())
		}
	}
}
