package ikey

import (
	"math"
	"slices"
	"strings"
	"testing"
	"unsafe"

	"cornucopia/api"
	"cornucopia/num"
)

// put tells a version that has something; its value tells it from others of the same key and number.
func put(key string, seq uint64, value string) api.Entry {
	return api.Entry{Key: key, Seq: seq, Kind: api.KindPut, Value: value}
}

func gone(key string, seq uint64) api.Entry {
	return api.Entry{Key: key, Seq: seq, Kind: api.KindDelete}
}

var (
	longKey   = strings.Repeat("k", api.MaxKey)
	longValue = strings.Repeat("v", api.MaxData)
)

// shares tells whether two texts stand in the same memory.
func shares(a, b string) bool {
	return len(a) > 0 && len(b) > 0 && unsafe.StringData(a) == unsafe.StringData(b)
}

func TestP501Compare(t *testing.T) {
	// In order; those of one row are the same to it.
	rows := [][]api.Entry{
		{put("", math.MaxUint64, ""), {Seq: math.MaxUint64}},
		{gone("", 0), {}},
		{put("\x00", 1, "x")},
		{put("a", math.MaxUint64, "")},
		{put("a", 1<<63, "")},
		{put("a", 1<<63-1, "")},
		{put("a", 5, "v"), gone("a", 5), put("a", 5, "w"), {Key: "a", Seq: 5, Kind: -9, Value: longValue + "v"}},
		{put("a", 3, "")},
		{gone("a", 0)},
		{put("a\x00", 9, "")},
		{put("aa", 0, "")},
		{put("b", 7, "")},
		{put("é", 7, "")},
		{put("\xff", 7, "")},
		{put("\xff\xff", 8, "")},
	}
	for i, row := range rows {
		for j, other := range rows {
			want := min(1, max(-1, i-j))
			for _, a := range row {
				for _, b := range other {
					if got := Compare(a, b); got != want {
						t.Errorf("Compare(%q %d, %q %d): %d, not %d", a.Key, a.Seq, b.Key, b.Seq, got, want)
					}
				}
			}
		}
	}
}

// wrong are versions that are not right.
func wrong() []api.Entry {
	return []api.Entry{
		{},
		{Key: "k", Seq: 1, Value: "v"},
		{Key: "k", Seq: 1, Kind: 3},
		{Key: "k", Seq: 1, Kind: 3, Value: "v"},
		{Key: "k", Seq: 1, Kind: -1},
		{Key: "k", Seq: 1, Kind: 1 << 8},
		{Key: "k", Seq: 1, Kind: 1<<32 | api.KindPut},
		{Key: "k", Seq: 1, Kind: math.MaxInt},
		{Key: "k", Seq: 1, Kind: math.MinInt},
		{Key: "k", Seq: 1, Kind: math.MinInt | api.KindPut},
		{Key: "k", Seq: 1, Kind: api.KindDelete, Value: "v"},
		{Key: "k", Seq: 1, Kind: api.KindDelete, Value: "\x00"},
		{Key: longKey + "k", Kind: api.KindPut},
		{Key: longKey + "k", Kind: api.KindDelete},
		{Kind: api.KindPut, Value: longValue + "v"},
		{Kind: api.KindDelete, Value: longValue + "v"},
	}
}

// right are versions that are, and their bytes.
func right() map[api.Entry]string {
	return map[api.Entry]string{
		put("", 0, ""):                     "\x00\x00\x01\x00",
		gone("", 0):                        "\x00\x00\x02\x00",
		put("k", 300, "v"):                 "\x01k\xac\x02\x01\x01v",
		gone("k", math.MaxUint64):          "\x01k\xff\xff\xff\xff\xff\xff\xff\xff\xff\x01\x02\x00",
		put("\x00\xff", 127, "\x01\x02"):   "\x02\x00\xff\x7f\x01\x02\x01\x02",
		put(longKey, 1, ""):                "\xac\x02" + longKey + "\x01\x01\x00",
		gone(longKey, 1):                   "\xac\x02" + longKey + "\x01\x02\x00",
		put("k", 128, longValue):           "\x01k\x80\x01\x01\xe0\xd4\x03" + longValue,
		put(longKey, 1<<63, longValue[1:]): "\xac\x02" + longKey + "\x80\x80\x80\x80\x80\x80\x80\x80\x80\x01\x01\xdf\xd4\x03" + longValue[1:],
	}
}

func TestP501Valid(t *testing.T) {
	for e := range right() {
		if !Valid(e) {
			t.Errorf("Valid(%q.., %d, kind %d, %d bytes): false", e.Key, e.Seq, e.Kind, len(e.Value))
		}
	}
	for _, e := range wrong() {
		if Valid(e) {
			t.Errorf("Valid(%q.., %d, kind %d, %d bytes): true", e.Key, e.Seq, e.Kind, len(e.Value))
		}
	}
}

func TestP502Put(t *testing.T) {
	for e, want := range right() {
		if got, err := Put(e); got != want || err != api.OK {
			t.Errorf("Put(%.40v): %.40q, %d, not %.40q", e, got, err, want)
		}
	}
	for _, e := range wrong() {
		if got, err := Put(e); got != "" || err != api.ErrArg {
			t.Errorf("Put(%.40v): %.40q, %d, not ErrArg", e, got, err)
		}
	}
}

func TestP502Get(t *testing.T) {
	for want, b := range right() {
		r := num.NewReader(b + "rest")
		if got := Get(r); got != want || r.Err() != api.OK || r.Left() != len("rest") {
			t.Errorf("Get(%.40q): %.40v, %d, and %d bytes left", b, got, r.Err(), r.Left())
		}
		for n := range min(len(b), 400) {
			getFails(t, b[:n], api.ErrShort)
		}
		getFails(t, b[:len(b)-1], api.ErrShort)
	}
	r := num.NewReader("\x01a\x02\x01\x01x" + "\x01a\x01\x02\x00")
	if a, b := Get(r), Get(r); a != put("a", 2, "x") || b != gone("a", 1) || r.End() != api.OK {
		t.Errorf("two versions: %v, %v, %d", a, b, r.End())
	}
}

// getFails holds Get to an error: it answers nothing, and so does all behind it.
func getFails(t *testing.T, b string, want api.Errno) {
	t.Helper()
	r := num.NewReader(b)
	for range 2 {
		if got := Get(r); got != (api.Entry{}) || r.Err() != want {
			t.Errorf("Get(%.40q): %.40v, %d, not %d", b, got, r.Err(), want)
		}
	}
}

func TestP502GetWrong(t *testing.T) {
	most := "\xff\xff\xff\xff\xff\xff\xff\xff\xff\x01"
	for _, c := range []struct {
		b string
		e api.Errno
	}{
		{"\x01k\x01\x00\x00", api.ErrForm},
		{"\x01k\x01\x00\x01v", api.ErrForm},
		{"\x01k\x01\x03\x00", api.ErrForm},
		{"\x01k\x01\x81\x02\x00", api.ErrForm},
		{"\x01k\x01\x81\x80\x80\x80\x10\x00", api.ErrForm},
		{"\x01k\x01\x81\x80\x80\x80\x80\x80\x80\x80\x80\x01\x00", api.ErrForm},
		{"\x01k\x01" + most + "\x00", api.ErrForm},
		{"\x01k\x01\x02\x01v", api.ErrForm},
		// The parts' own errors come first: what is not whole is no version of a wrong kind.
		{"\x01k\x01\x03", api.ErrShort},
		{"\x01k\x01\x02\x05v", api.ErrShort},
		{"\x01k\x01\x03\xe1\xd4\x03", api.ErrLong},
		{"\x01k\x81\x00\x01\x00", api.ErrForm},
		{"\x01k\x01\x81\x00\x00", api.ErrForm},
		{"\x01k" + most[:9] + "\x02\x01\x00", api.ErrForm},
		{"\x01k\x01\x01\x81\x00v", api.ErrForm},
		{"\xad\x02" + longKey + "k\x01\x01\x00", api.ErrLong},
		{"\xad\x02", api.ErrLong},
		{"\x01k\x01\x01\xe1\xd4\x03" + longValue + "v", api.ErrLong},
		{"\x01k\x01\x02\xe1\xd4\x03", api.ErrLong},
		{most, api.ErrLong},
	} {
		getFails(t, c.b, c.e)
	}
}

func TestP502GetOfOtherReaders(t *testing.T) {
	r := num.NewReader("\x01k\x01\x01\x01v")
	r.Fail(api.ErrSum)
	if got := Get(r); got != (api.Entry{}) || r.Err() != api.ErrSum {
		t.Errorf("of a reader with an error: %v, %d", got, r.Err())
	}
	if got := Get(nil); got != (api.Entry{}) {
		t.Errorf("of no reader: %v", got)
	}
	zero := &num.Reader{}
	if got := Get(zero); got != (api.Entry{}) || zero.Err() != api.ErrShort {
		t.Errorf("of a zero reader: %v, %d", got, zero.Err())
	}
}

func TestP503Pick(t *testing.T) {
	l := []api.Entry{
		put("a", 3, "three"), put("b", 9, "b"), put("a", 7, "seven"), {Key: "a", Seq: 7, Value: "second"},
		gone("a", 1), put("a", 3, "again"), put("", 0, "none"), put("ab", 5, "ab"), put("c", math.MaxUint64, "most"),
	}
	given := slices.Clone(l)
	for _, c := range []struct {
		key  string
		seq  uint64
		want int // its place; below 0: there is none
	}{
		{"a", math.MaxUint64, 2}, {"a", 8, 2}, {"a", 7, 2}, {"a", 6, 0}, {"a", 3, 0}, {"a", 2, 4}, {"a", 1, 4}, {"a", 0, -1},
		{"b", 9, 1}, {"b", 8, -1}, {"", 0, 6}, {"", math.MaxUint64, 6}, {"ab", 5, 7}, {"ab", 4, -1},
		{"c", math.MaxUint64, 8}, {"c", math.MaxUint64 - 1, -1}, {"d", math.MaxUint64, -1}, {"abc", 9, -1},
	} {
		want := api.Entry{}
		if c.want >= 0 {
			want = l[c.want]
		}
		if got, is := Pick(l, c.key, c.seq); got != want || is != (c.want >= 0) {
			t.Errorf("Pick(%q, %d): %v, %t, not %v", c.key, c.seq, got, is, want)
		}
	}
	if !slices.Equal(l, given) {
		t.Errorf("the versions are then %v", l)
	}
	if got, is := Pick(nil, "", 0); got != (api.Entry{}) || is {
		t.Errorf("of no versions: %v, %t", got, is)
	}
	if got, is := Pick([]api.Entry{{}}, "", 0); got != (api.Entry{}) || !is {
		t.Errorf("of a zero version: %v, %t", got, is)
	}
}

func TestP504Shadow(t *testing.T) {
	l := []api.Entry{
		put("a", 5, "v"), put("a", 3, "w"), gone("a", 1),
		gone("b", 4), put("b", 2, "x"), put("b", 0, "y"),
		put("c", math.MaxUint64, ""), put("c", 1<<63, ""),
	}
	for _, c := range []struct {
		pins []uint64
		want []int // their places
	}{
		{nil, []int{0, 3, 6}},
		{[]uint64{}, []int{0, 3, 6}},
		{[]uint64{0}, []int{0, 3, 5, 6}},
		{[]uint64{1}, []int{0, 2, 3, 5, 6}},
		{[]uint64{2}, []int{0, 2, 3, 4, 6}},
		{[]uint64{3}, []int{0, 1, 3, 4, 6}},
		{[]uint64{4}, []int{0, 1, 3, 6}},
		{[]uint64{5}, []int{0, 3, 6}},
		{[]uint64{1<<63 - 1}, []int{0, 3, 6}},
		{[]uint64{1 << 63}, []int{0, 3, 6, 7}},
		{[]uint64{math.MaxUint64 - 1}, []int{0, 3, 6, 7}},
		{[]uint64{math.MaxUint64}, []int{0, 3, 6}},
		{[]uint64{9, 3, 3, 0, 9}, []int{0, 1, 3, 4, 5, 6}},
		{[]uint64{1 << 63, 0, 2, 4}, []int{0, 1, 2, 3, 4, 5, 6, 7}},
	} {
		var want []api.Entry
		for _, i := range c.want {
			want = append(want, l[i])
		}
		versions, pins := slices.Clone(l), slices.Clone(c.pins)
		if got := Shadow(versions, pins...); !slices.Equal(got, want) {
			t.Errorf("Shadow at %d: %v, not %v", c.pins, got, want)
		}
		if !slices.Equal(versions, l) || !slices.Equal(pins, c.pins) {
			t.Errorf("the versions and pins are then %v, %d", versions, pins)
		}
	}
	if got := Shadow(nil, 1, 2); len(got) > 0 {
		t.Errorf("of no versions: %v", got)
	}
}

func TestP504ShadowExample(t *testing.T) {
	got := Shadow([]api.Entry{put("a", 5, ""), put("a", 3, ""), put("a", 1, "")}, 4)
	if !slices.Equal(got, []api.Entry{put("a", 5, ""), put("a", 3, "")}) {
		t.Errorf("the chapter's example: %v", got)
	}
}

// lists tells every list, in order, of the versions of two keys with numbers below most.
func lists(most uint64) [][]api.Entry {
	all := [][]api.Entry{nil}
	for _, key := range []string{"a", "b"} {
		for i := range most {
			seq := most - 1 - i
			for _, l := range slices.Clone(all) {
				e := put(key, seq, "v")
				if seq%2 == 1 {
					e = gone(key, seq)
				}
				all = append(all, append(slices.Clone(l), e))
			}
		}
	}
	return all
}

// subsets tells every list of numbers below most, each at most once, the greatest first.
func subsets(most uint64) [][]uint64 {
	all := [][]uint64{nil}
	for i := range most {
		for _, l := range slices.Clone(all) {
			all = append(all, append([]uint64{i}, l...))
		}
	}
	return all
}

// plainShadow is the promise word by word.
func plainShadow(l []api.Entry, pins []uint64) []api.Entry {
	var out []api.Entry
	for i, e := range l {
		sees := func(pin uint64) bool {
			return i == slices.IndexFunc(l, func(x api.Entry) bool { return x.Key == e.Key && x.Seq <= pin })
		}
		if sees(math.MaxUint64) || slices.ContainsFunc(pins, sees) {
			out = append(out, e)
		}
	}
	return out
}

func TestP504ShadowOfEveryList(t *testing.T) {
	for _, l := range lists(4) {
		for _, pins := range subsets(5) {
			if got, want := Shadow(l, pins...), plainShadow(l, pins); !slices.Equal(got, want) {
				t.Fatalf("Shadow(%v; %d): %v, not %v", l, pins, got, want)
			}
		}
	}
}

func TestP505PickBehindShadow(t *testing.T) {
	for _, l := range lists(4) {
		for _, pins := range subsets(5) {
			behind := Shadow(l, pins...)
			top := uint64(0)
			for _, e := range l {
				top = max(top, e.Seq)
			}
			for _, seq := range append(slices.Clone(pins), top, top+1, 1<<63, math.MaxUint64) {
				for _, key := range []string{"a", "b", "c"} {
					e, is := Pick(l, key, seq)
					if got, gotIs := Pick(behind, key, seq); got != e || gotIs != is {
						t.Fatalf("Pick(Shadow(%v; %d), %q, %d): %v, %t, not %v, %t", l, pins, key, seq, got, gotIs, e, is)
					}
				}
			}
		}
	}
}

func TestAnswersAreNewMemory(t *testing.T) {
	b := strings.Clone("\x03key\x01\x01\x05value")
	if e := Get(num.NewReader(b)); shares(e.Key, b[1:]) || shares(e.Value, b[7:]) {
		t.Error("Get answers a piece of what is read")
	}
	l := []api.Entry{put("key", 1, "value")}
	if e, _ := Pick(l, "key", 1); shares(e.Key, l[0].Key) || shares(e.Value, l[0].Value) {
		t.Error("Pick answers texts that were handed in")
	}
	if got := Shadow(l); shares(got[0].Key, l[0].Key) || shares(got[0].Value, l[0].Value) || &got[0] == &l[0] {
		t.Error("Shadow answers what was handed in")
	}
}
