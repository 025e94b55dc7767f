package table

import (
	"encoding/binary"
	"fmt"
	"hash/crc32"
	"math"
	"slices"
	"strings"
	"testing"

	"cornucopia/api"
	"cornucopia/block"
	"cornucopia/bloom"
	"cornucopia/file"
	"cornucopia/wal"
)

func put(key string, seq uint64, value string) api.Entry {
	return api.Entry{Key: key, Seq: seq, Kind: api.KindPut, Value: value}
}

func gone(key string, seq uint64) api.Entry {
	return api.Entry{Key: key, Seq: seq, Kind: api.KindDelete}
}

var (
	longKey   = strings.Repeat("k", api.MaxKey)
	longValue = strings.Repeat("v", api.MaxData)
)

// many are n versions, each key with two of them.
func many(n int) []api.Entry {
	var l []api.Entry
	for i := range n {
		l = append(l, put(fmt.Sprintf("k%04d", i/2), uint64(10-i%2), fmt.Sprint(i)))
	}
	return l
}

// mixed are versions of which one key fills blocks, one begins with a block, and one ends with it.
func mixed() []api.Entry {
	l := []api.Entry{put("", 9, "x"), gone("", 0)}
	for i := range 9 {
		l = append(l, put("a", uint64(500-i), fmt.Sprint("a", i)))
	}
	for i := range 29 {
		l = append(l, put("b", uint64(900-2*i), strings.Repeat("b", 10*i)))
	}
	l = append(l, put("b\x00", 1, ""), put("b\xff", math.MaxUint64, "most"), gone("b\xff", 0))
	for i := range 7 {
		l = append(l, put(fmt.Sprint("c", i), 3, "c"), gone(fmt.Sprint("c", i), 2))
	}
	l = append(l, put("é", 1<<63, "\x00"), put(longKey, 5, "long"))
	slices.SortStableFunc(l, func(a, b api.Entry) int { return strings.Compare(a.Key, b.Key) })
	return l
}

func text(s string) string {
	return string(append(binary.AppendUvarint(nil, uint64(len(s))), s...))
}

func numbers(l ...int) string {
	var b []byte
	for _, v := range l {
		b = binary.AppendUvarint(b, uint64(v))
	}
	return string(b)
}

func seal(s string) string {
	crc := crc32.Checksum([]byte(s), crc32.MakeTable(crc32.Castagnoli))
	return string(binary.BigEndian.AppendUint32([]byte(s), crc))
}

// foot is a footer of whatever places.
func foot(l ...uint64) string {
	s := ""
	for _, v := range l {
		s += string(binary.BigEndian.AppendUint64(nil, v)[2:])
	}
	return seal(s)
}

// pieces are a table in its parts, not sealed yet.
type pieces struct{ blocks, filter, index string }

// whole is the table of some parts, whose footer is right.
func (p pieces) whole() string {
	filter, index := seal(p.filter), seal(p.index)
	at := len(p.blocks)
	return p.blocks + filter + index + foot(uint64(at), uint64(len(filter)), uint64(at+len(filter)), uint64(len(index)))
}

// plain is the chapter word by word, of versions that are right and in order.
func plain(l []api.Entry) pieces {
	var p pieces
	var keys []string
	entries, count := "", 0
	for part := range slices.Chunk(l, 8) {
		b, _ := block.Put(part...)
		entries += text(part[0].Key) + numbers(len(p.blocks), len(b))
		p.blocks += b
		count++
		for _, e := range part {
			keys = append(keys, e.Key)
		}
	}
	p.filter, _ = bloom.Make(10, 4, slices.Compact(keys)...)
	p.index = numbers(count) + entries + numbers(len(l)) + text(l[len(l)-1].Key)
	return p
}

func opened(t *testing.T, b string) *Reader {
	t.Helper()
	r, e := Open(b)
	if r == nil || e != api.OK {
		t.Fatalf("Open(%.80q): %v, %d", b, r != nil, e)
	}
	return r
}

// lays holds what Put makes of versions against the chapter, and opens it.
func lays(t *testing.T, l ...api.Entry) *Reader {
	t.Helper()
	b, e := Put(l...)
	if want := plain(l).whole(); b != want || e != api.OK {
		t.Fatalf("Put(%.200q): %.200q, %d, not %.200q", fmt.Sprint(l), b, e, want)
	}
	return opened(t, b)
}

func TestExample(t *testing.T) {
	r := lays(t, many(9)...)
	if r.Blocks() != 2 || r.Len() != 9 {
		t.Errorf("Blocks %d, Len %d", r.Blocks(), r.Len())
	}
	if v, is, e := r.Get("zzz", 9); v != (api.Entry{}) || is || e != api.OK || r.Read() != 0 {
		t.Errorf("Get: %v, %v, %d, with %d read", v, is, e, r.Read())
	}
	if Block != 8 || Bits != 10 || Probes != 4 {
		t.Errorf("Block %d, Bits %d, Probes %d", Block, Bits, Probes)
	}
}

func TestP1101Name(t *testing.T) {
	for num, want := range map[int]string{
		0: "t00000000", 7: "t00000007", 12_345_678: "t12345678", 99_999_999: "t99999999",
		100_000_000: "t00000000", 123_456_789: "t23456789", -1: "t99999999", -100_000_000: "t00000000",
	} {
		if got := Name(num); got != want {
			t.Errorf("Name(%d): %q, not %q", num, got, want)
		}
	}
	for _, num := range []int{math.MaxInt, math.MinInt, 1 << 32, -1 << 40} {
		if got, log := Name(num), wal.Name(num); got != "t"+log[1:] {
			t.Errorf("Name(%d): %q, and the log's %q", num, got, log)
		}
	}
}

func TestP1101PutBytes(t *testing.T) {
	b, e := Put(put("a", 2, "x"), gone("a", 1))
	blocks := seal("\x00\x01a\x02\x01\x01x" + "\x01\x00\x01\x02\x00" + "\x00\x00\x00\x00" + "\x00\x00\x00\x01")
	bits, _ := bloom.Make(10, 4, "a")
	filter := seal(bits)
	index := seal("\x01" + "\x01a" + "\x00\x18" + "\x02" + "\x01a")
	footer := seal("\x00\x00\x00\x00\x00\x18" + "\x00\x00\x00\x00\x00\x0d" + "\x00\x00\x00\x00\x00\x25" + "\x00\x00\x00\x00\x00\x0c")
	if want := blocks + filter + index + footer; b != want || e != api.OK {
		t.Errorf("%q, %d, not %q", b, e, want)
	}
}

func TestP1101PutOfEveryLength(t *testing.T) {
	for n := 1; n <= 70; n++ {
		r := lays(t, many(n)...)
		if want := (n + 7) / 8; r.Blocks() != want || r.Len() != n {
			t.Errorf("of %d: Blocks %d, Len %d", n, r.Blocks(), r.Len())
		}
	}
	l := mixed()
	for i := range l {
		lays(t, l[i:]...)
		lays(t, l[:i+1]...)
	}
	lays(t, put("", 0, ""))
	lays(t, put(longKey, math.MaxUint64, longValue), put(longKey, 1, longValue), gone(longKey, 0))
}

func TestP1101PutOfGreatPlaces(t *testing.T) {
	// Places of four bytes take 2^24 bytes of values.
	var l []api.Entry
	for i := range 300 {
		l = append(l, put(fmt.Sprintf("%03d", i), 1, longValue))
	}
	r := lays(t, l...)
	if v, is, e := r.Get("299", 1); v != l[299] || !is || e != api.OK {
		t.Errorf("the last one: %.40q, %v, %d", v.Key, is, e)
	}
}

// around are 18 versions that are right, the n-th of which x stands ahead of, in its order.
func around(n int, x api.Entry) []api.Entry {
	var l []api.Entry
	for i := range 18 {
		if i < n {
			l = append(l, put(fmt.Sprintf("j%02d", i), 1, ""))
		} else {
			l = append(l, put(fmt.Sprintf("l%02d", i), 1, ""))
		}
	}
	return slices.Insert(l, n, x)
}

func TestP1101PutRefuses(t *testing.T) {
	no := func(what string, l ...api.Entry) {
		t.Helper()
		if b, e := Put(l...); b != "" || e != api.ErrArg {
			t.Errorf("%s: %.40q, %d", what, b, e)
		}
		f := file.New(0)
		if x, e := Write(f, 1, 0, l...); x != (api.Table{}) || e != api.ErrArg || f.Steps() != 0 {
			t.Errorf("%s: Write: %v, %d, %d steps", what, x, e, f.Steps())
		}
	}
	no("none")
	no("an empty list", []api.Entry{}...)
	wrong := map[string]api.Entry{
		"a long key":              put("k"+longKey, 1, ""),
		"a long value":            put("k", 1, longValue+"v"),
		"a deletion with a value": {Key: "k", Seq: 1, Kind: api.KindDelete, Value: "v"},
		"no kind":                 {Key: "k", Seq: 1},
		"kind 3":                  {Key: "k", Seq: 1, Kind: 3},
		"kind -1":                 {Key: "k", Seq: 1, Kind: -1},
	}
	for n := range 18 {
		lays(t, around(n, put("k", 1, ""))...)
		for what, x := range wrong {
			no(fmt.Sprint(what, " at ", n), around(n, x)...)
		}
	}
	for i := range 30 {
		for j := range i {
			l := many(30)
			l[i], l[j] = l[j], l[i]
			no(fmt.Sprintf("%d and %d changed places", i, j), l...)
		}
		no(fmt.Sprintf("%d twice", i), slices.Insert(many(30), i, many(30)[i])...)
	}
	// What is wrong between two blocks, each of which is right.
	eight := many(8)
	no("a block twice", append(eight, many(8)...)...)
	no("a block that begins as the one ahead ends", append(eight, eight[7])...)
	no("a number that rises over the end", append(eight, put(eight[7].Key, 99, ""))...)
	no("a key that falls over the end", append(eight, put("a", 1, ""))...)
}

func TestP1101PutOfTooManyKeys(t *testing.T) {
	// There is no filter of more keys: the error of who makes it is told.
	const most = 1 << 20 / 10
	var l []api.Entry
	for i := range most + 1 {
		l = append(l, put(fmt.Sprintf("%06d", i), 2, ""))
	}
	if b, e := Put(l...); b != "" || e != api.ErrLong {
		t.Errorf("%d keys: %.40q, %d", len(l), b, e)
	}
	l[most] = put(l[most-1].Key, 1, "")
	b, e := Put(l...)
	if r := opened(t, b); e != api.OK || r.Len() != most+1 {
		t.Errorf("%d keys: %d, Len %d", most, e, r.Len())
	}
	l[0] = put("zzz", 1, "")
	if b, e := Put(append(l, put("a", 1, ""))...); b != "" || e != api.ErrArg {
		t.Errorf("out of order, and too many: %.40q, %d", b, e)
	}
}

func TestP1101VersionsStand(t *testing.T) {
	room := many(20)
	b, _ := Put(room[:11]...)
	first := strings.Clone(b)
	f := file.New(0)
	Write(f, 1, 0, room[:11]...)
	if !slices.Equal(room, many(20)) {
		t.Errorf("the versions are changed: %v", room)
	}
	room[0] = put("", 9, "other")
	if b != first {
		t.Error("the bytes hang on the versions")
	}
}

func TestP1101Write(t *testing.T) {
	f := file.New(0)
	for _, c := range []struct{ num, level, count int }{
		{0, 0, 1}, {7, 2, 9}, {99_999_999, 3, 40}, {5, -1, 8}, {6, math.MaxInt, 16}, {8, math.MinInt, 17},
	} {
		l := many(c.count)
		want, _ := Put(l...)
		steps := f.Steps()
		x, e := Write(f, c.num, c.level, l...)
		if (x != api.Table{Num: c.num, Level: c.level, Size: len(want), First: "k0000", Last: l[c.count-1].Key}) || e != api.OK {
			t.Errorf("%v: %v, %d", c, x, e)
		}
		if got, e := f.Read(Name(c.num)); got != want || e != api.OK || f.Steps() != steps+4 {
			t.Errorf("%v: %.40q, %d, %d steps", c, got, e, f.Steps()-steps)
		}
	}
	names, used := f.Names(), f.Used()
	f.Crash(0)
	f.Restore()
	if !slices.Equal(f.Names(), names) || f.Used() != used {
		t.Errorf("behind a crash: %q, %d, not %q, %d", f.Names(), f.Used(), names, used)
	}
}

func TestP1101WriteRefuses(t *testing.T) {
	f := file.New(0)
	for _, num := range []int{-1, 100_000_000, 100_000_001, math.MinInt, math.MaxInt} {
		for _, l := range [][]api.Entry{many(3), nil} {
			if x, e := Write(f, num, 0, l...); x != (api.Table{}) || e != api.ErrArg {
				t.Errorf("%d: %v, %d", num, x, e)
			}
			if x, e := Write(nil, num, 0, l...); x != (api.Table{}) || e != api.ErrArg {
				t.Errorf("%d without files: %v, %d", num, x, e)
			}
		}
	}
	if f.Steps() != 0 {
		t.Errorf("%d steps", f.Steps())
	}
	for _, f := range []*file.System{nil, {}} {
		if x, e := Write(f, 1, 0, many(3)...); x != (api.Table{}) || e != api.ErrOff {
			t.Errorf("without power: %v, %d", x, e)
		}
		if x, e := Write(f, 1, 0); x != (api.Table{}) || e != api.ErrArg {
			t.Errorf("without power and versions: %v, %d", x, e)
		}
	}
	Write(f, 3, 1, many(9)...)
	was, _ := f.Read(Name(3))
	steps := f.Steps()
	if x, e := Write(f, 3, 1, many(5)...); x != (api.Table{}) || e != api.ErrDup || f.Steps() != steps+1 {
		t.Errorf("once more: %v, %d, %d steps", x, e, f.Steps()-steps)
	}
	if s, _ := f.Read(Name(3)); s != was {
		t.Errorf("once more: it is %.40q", s)
	}
}

func TestP1101WriteFails(t *testing.T) {
	b, _ := Put(many(9)...)
	for what, c := range map[string]struct {
		spoil func(f *file.System)
		room  int
		want  api.Errno
		steps int
		there string // what the file has behind it
	}{
		"power at Create":  {func(f *file.System) { f.Fuse(0) }, 0, api.ErrOff, 1, ""},
		"power at Append":  {func(f *file.System) { f.Fuse(1) }, 0, api.ErrOff, 2, b},
		"power at Sync":    {func(f *file.System) { f.Fuse(2) }, 0, api.ErrOff, 3, b},
		"power at SyncDir": {func(f *file.System) { f.Fuse(3) }, 0, api.ErrOff, 4, b},
		"power behind it":  {func(f *file.System) { f.Fuse(4) }, 0, api.OK, 4, b},
		"a bad Sync":       {func(f *file.System) { f.Bad(0) }, 0, api.ErrIO, 3, b},
		"a bad SyncDir":    {func(f *file.System) { f.Bad(1) }, 0, api.ErrIO, 4, b},
		"bad behind it":    {func(f *file.System) { f.Bad(2) }, 0, api.OK, 4, b},
		"a byte too few":   {func(f *file.System) {}, len(b) - 1, api.ErrFull, 2, ""},
		"just room":        {func(f *file.System) {}, len(b), api.OK, 4, b},
	} {
		f := file.New(c.room)
		c.spoil(f)
		x, e := Write(f, 4, 1, many(9)...)
		if e != c.want || (x != api.Table{}) != (e == api.OK) || f.Steps() != c.steps {
			t.Errorf("%s: %v, %d, %d steps", what, x, e, f.Steps())
		}
		if f.On() {
			if s, e := f.Read(Name(4)); s != c.there || e != api.OK {
				t.Errorf("%s: %.40q, %d is there", what, s, e)
			}
		} else if f.Used() != len(c.there) {
			t.Errorf("%s: %d bytes are there", what, f.Used())
		}
	}
}
