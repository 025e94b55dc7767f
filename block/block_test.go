package block

import (
	"encoding/binary"
	"fmt"
	"hash/crc32"
	"math"
	"slices"
	"strings"
	"testing"
	"unsafe"

	"cornucopia/api"
	"cornucopia/num"
	"cornucopia/sum"
)

func put(key string, seq uint64, value string) api.Entry {
	return api.Entry{Key: key, Seq: seq, Kind: api.KindPut, Value: value}
}

func gone(key string, seq uint64) api.Entry {
	return api.Entry{Key: key, Seq: seq, Kind: api.KindDelete}
}

var (
	longKey   = strings.Repeat("k", api.MaxKey)
	longValue = strings.Repeat("v", api.MaxData)
)

// piece is the bytes of one version, with whatever is told of it.
func piece(shared int, rest string, seq, kind uint64, value string) string {
	b := binary.AppendUvarint(nil, uint64(shared))
	b = append(binary.AppendUvarint(b, uint64(len(rest))), rest...)
	b = binary.AppendUvarint(binary.AppendUvarint(b, seq), kind)
	return string(append(binary.AppendUvarint(b, uint64(len(value))), value...))
}

// four tells numbers in 4 bytes each.
func four(l ...int) string {
	var b []byte
	for _, v := range l {
		b = binary.BigEndian.AppendUint32(b, uint32(v))
	}
	return string(b)
}

func seal(s string) string {
	return s + four(int(crc32.Checksum([]byte(s), crc32.MakeTable(crc32.Castagnoli))))
}

// plainBody is the chapter word by word, of versions that are right and in order.
func plainBody(l []api.Entry) string {
	b, places := "", []int{}
	for i, e := range l {
		shared := 0
		if i%4 == 0 {
			places = append(places, len(b))
		} else {
			for !strings.HasPrefix(l[i-1].Key, e.Key[:len(e.Key)-shared]) {
				shared++
			}
			shared = len(e.Key) - shared
		}
		b += piece(shared, e.Key[shared:], e.Seq, uint64(e.Kind), e.Value)
	}
	return b + four(places...) + four(len(places))
}

// lays holds what Put makes of versions against the chapter, and what Get and Seek make of that against the versions.
func lays(t *testing.T, l ...api.Entry) string {
	t.Helper()
	b, e := Put(l...)
	if want := seal(plainBody(l)); b != want || e != api.OK {
		t.Fatalf("Put(%.200q): %.200q, %d, not %.200q", fmt.Sprint(l), b, e, want)
	}
	got, e := Get(b)
	if !slices.Equal(got, l) || e != api.OK {
		t.Fatalf("Get of Put(%.200q): %.200q, %d", fmt.Sprint(l), fmt.Sprint(got), e)
	}
	return b
}

// refuses holds Get and Seek of bytes against an error.
func refuses(t *testing.T, what, b string, want api.Errno) {
	t.Helper()
	if l, e := Get(b); len(l) > 0 || e != want {
		t.Errorf("%s: Get(%.80q): %.200q, %d, not %d", what, b, fmt.Sprint(l), e, want)
	}
	for _, key := range []string{"", "a", "\xff"} {
		if l, e := Seek(b, key); len(l) > 0 || e != want {
			t.Errorf("%s: Seek(%.80q, %q): %.200q, %d, not %d", what, b, key, fmt.Sprint(l), e, want)
		}
	}
}

// twelve are versions with all that keys may share, and three restarts.
func twelve() []api.Entry {
	return []api.Entry{
		put("", 7, ""), gone("", 0), put("\x00", 1, "zero"), put("a", math.MaxUint64, "x"),
		put("a", 300, "y"), gone("a", 2), put("ab", 5, strings.Repeat("w", 200)), put("abc", 5, ""),
		put("abd", 128, "\x00\xff"), put("b", 127, "v"), put("b\xff", 1, ""), gone("é", 1<<63),
	}
}

func TestExample(t *testing.T) {
	if n := Shared("abc", "abd"); n != 2 {
		t.Errorf("Shared: %d", n)
	}
	l := []api.Entry{put("a", 2, ""), put("a", 1, ""), put("b", 1, "")}
	b, _ := Put(l...)
	if got, e := Get(b); !slices.Equal(got, l) || e != api.OK {
		t.Errorf("Get of Put: %v, %d", got, e)
	}
	if Every != 4 {
		t.Errorf("Every: %d", Every)
	}
}

func TestP1001Shared(t *testing.T) {
	for _, c := range []struct {
		a, b string
		want int
	}{
		{"", "", 0}, {"", "a", 0}, {"a", "a", 1}, {"a", "b", 0}, {"ab", "abc", 2}, {"xbc", "abc", 0}, {"axc", "abc", 1},
		{"\x00", "\x00\x00", 1}, {"\x00", "", 0}, {"\xff\xfe", "\xff\xff", 1}, {"é", "è", 1}, {"é", "É", 1},
		{longKey, longKey, api.MaxKey}, {longKey + "a", longKey + "b", api.MaxKey}, {longValue, longValue + "v", api.MaxData},
	} {
		if n, m := Shared(c.a, c.b), Shared(c.b, c.a); n != c.want || m != c.want {
			t.Errorf("Shared of %.20q and %.20q: %d, %d, not %d", c.a, c.b, n, m, c.want)
		}
	}
}

func TestP1002PutBytes(t *testing.T) {
	for _, c := range []struct {
		l    []api.Entry
		want string
	}{
		{nil, "\x00\x00\x00\x00"},
		{[]api.Entry{put("", 0, "")}, "\x00\x00\x00\x01\x00" + "\x00\x00\x00\x00" + "\x00\x00\x00\x01"},
		{[]api.Entry{gone("a", 300)}, "\x00\x01a\xac\x02\x02\x00" + "\x00\x00\x00\x00" + "\x00\x00\x00\x01"},
		{
			[]api.Entry{put("ab", 2, "v"), put("ab", 1, ""), put("abc", 9, ""), put("b", 1, ""), put("ba", 1, "")},
			"\x00\x02ab\x02\x01\x01v" + "\x02\x00\x01\x01\x00" + "\x02\x01c\x09\x01\x00" + "\x00\x01b\x01\x01\x00" + "\x00\x02ba\x01\x01\x00" +
				"\x00\x00\x00\x00" + "\x00\x00\x00\x19" + "\x00\x00\x00\x02",
		},
	} {
		b, e := Put(c.l...)
		if b != seal(c.want) || e != api.OK {
			t.Errorf("Put(%v): %q, %d, not %q", c.l, b, e, c.want)
		}
	}
}

func TestP1002PutOfEveryLength(t *testing.T) {
	var l []api.Entry
	for i := range 70 {
		l = append(l, put(fmt.Sprintf("key%03d", i/3), uint64(200-i), strings.Repeat("v", i*7)))
		lays(t, l...)
		lays(t, l[i:]...)
		lays(t, l[i/2:]...)
	}
	for from := range twelve() {
		lays(t, twelve()[from:]...)
	}
}

func TestP1002PutOfLongOnes(t *testing.T) {
	lays(t, put(longKey, math.MaxUint64, longValue), put(longKey, 1, longValue), gone(longKey, 0))
	lays(t, put(longKey[1:], 1, ""), put(longKey, 3, longValue[1:]), gone(longKey, 2))
	lays(t, put(longKey[1:]+"a", 1, longValue), put(longKey[1:]+"b", 3, longValue))
}

func TestP1002PutOfManyPlaces(t *testing.T) {
	// Places in each of the four bytes; the highest one takes 2^24 bytes of values.
	var l []api.Entry
	for i := range 600 {
		l = append(l, put(fmt.Sprintf("%04d", i/2), uint64(9-i%2), longValue[:30000+i]))
	}
	b, e := Put(l...)
	got, e2 := Get(b)
	if !slices.Equal(got, l) || e != api.OK || e2 != api.OK {
		t.Fatalf("%d of %d versions, %d, %d", len(got), len(l), e, e2)
	}
	at := 0
	for i, x := range l {
		if i%4 != 0 {
			at += len(piece(Shared(l[i-1].Key, x.Key), x.Key[Shared(l[i-1].Key, x.Key):], x.Seq, 1, x.Value))
			continue
		}
		place := len(b) - 8 - 150*4 + i
		if want, _ := num.Fix(uint64(at), 4); b[place:place+4] != want {
			t.Fatalf("the place of version %d: %q, not %q", i, b[place:place+4], want)
		}
		at += len(piece(0, x.Key, x.Seq, 1, x.Value))
	}
	if at < 1<<24 {
		t.Errorf("the versions have but %d bytes", at)
	}
}

func TestP1002PutRefuses(t *testing.T) {
	no := func(what string, l ...api.Entry) {
		t.Helper()
		if b, e := Put(l...); b != "" || e != api.ErrArg {
			t.Errorf("%s: %.40q, %d", what, b, e)
		}
	}
	for what, wrong := range map[string]api.Entry{
		"a long key":              put(longKey+"k", 1, ""),
		"a long value":            put("k", 1, longValue+"v"),
		"a deletion with a value": {Key: "k", Seq: 1, Kind: api.KindDelete, Value: "v"},
		"no kind":                 {Key: "k", Seq: 1},
		"kind 3":                  {Key: "k", Seq: 1, Kind: 3},
		"kind -1":                 {Key: "k", Seq: 1, Kind: -1},
		"kind 2^32 + 1":           {Key: "k", Seq: 1, Kind: 1<<32 + 1},
	} {
		no(what, wrong)
		no(what+", the last", put("a", 1, ""), wrong)
		no(what+", the first", wrong, put("z", 1, ""))
	}
	for i := range twelve() {
		for j := range i {
			l := twelve()
			l[i], l[j] = l[j], l[i]
			no(fmt.Sprintf("%d and %d changed places", i, j), l...)
		}
		no(fmt.Sprintf("%d twice", i), slices.Insert(twelve(), i, twelve()[i])...)
	}
	no("rising numbers", put("a", 1, ""), put("a", 2, ""))
	no("one number, two kinds", put("a", 1, ""), gone("a", 1))
	no("one number, two values", put("a", 1, "x"), put("a", 1, "y"))
	no("keys that fall", put("b", 1, ""), put("a", 9, ""))
	no("a key that comes back", put("a", 2, ""), put("b", 1, ""), put("a", 1, ""))
	no("bytes with a high bit", put("\xff", 1, ""), put("a", 1, ""))
	no("behind a restart", put("a", 9, ""), put("a", 8, ""), put("a", 7, ""), put("a", 6, ""), put("a", 6, ""))
}

func TestP1002VersionsStand(t *testing.T) {
	room := twelve()
	b, _ := Put(room[:9]...)
	first := strings.Clone(b)
	if !slices.Equal(room, twelve()) {
		t.Errorf("the versions are changed: %v", room)
	}
	room[0] = put("", 9, "other")
	if b != first {
		t.Error("the bytes hang on the versions")
	}
}

func TestP1003GetOpens(t *testing.T) {
	b := lays(t, twelve()...)
	for n := range b {
		want := api.ErrSum
		if n < 4 {
			want = api.ErrShort
		}
		refuses(t, "cut", b[:n], want)
	}
	for i := range b {
		refuses(t, "spoilt", b[:i]+string([]byte{b[i] ^ 0x41})+b[i+1:], api.ErrSum)
	}
	refuses(t, "a byte more", b+"\x00", api.ErrSum)
	// What is not well sealed is told ahead of what it would be.
	refuses(t, "no block and no seal", "abcdefgh", api.ErrSum)
}

func TestP1003GetRefusesForms(t *testing.T) {
	one, a1 := four(0, 1), piece(0, "a", 1, 1, "")
	for what, body := range map[string]string{
		"nothing":                    "",
		"a short count":              "\x00\x00\x00",
		"a byte ahead of the count":  "\x00\x00\x00\x00\x00",
		"no such many places":        four(1),
		"very many places":           four(0, 1<<30),
		"2^32 - 1 places":            four(0, -1),
		"a place and no version":     four(0, 1),
		"two places, one version":    a1 + four(0, 0, 2),
		"two other places":           a1 + four(0, len(a1), 2),
		"a version and no place":     a1 + four(0),
		"a wrong place":              a1 + four(1, 1),
		"another wrong place":        a1 + four(len(a1), 1),
		"a version cut":              a1[:len(a1)-1] + one,
		"a version cut in its key":   a1[:2] + one,
		"a byte behind it":           a1 + "\x00" + one,
		"a first one that shares":    piece(1, "a", 1, 1, "") + one,
		"kind 0":                     piece(0, "a", 1, 0, "") + one,
		"kind 3":                     piece(0, "a", 1, 3, "") + one,
		"kind 2^32 + 1":              piece(0, "a", 1, 1<<32+1, "") + one,
		"kind 2^63 + 1":              piece(0, "a", 1, 1<<63+1, "") + one,
		"kind 2^64 - 1":              piece(0, "a", 1, math.MaxUint64, "") + one,
		"a deletion with a value":    piece(0, "a", 1, 2, "v") + one,
		"a long key":                 piece(0, longKey+"k", 1, 1, "") + one,
		"a long value":               piece(0, "a", 1, 1, longValue+"v") + one,
		"a number in too many bytes": "\x80\x00\x01a\x01\x01\x00" + one,
		"a kind in too many bytes":   "\x00\x01a\x01\x81\x00\x00" + one,
		"a Seq of 65 bits":           "\x00\x01a" + strings.Repeat("\xff", 9) + "\x03\x01\x00" + one,
	} {
		refuses(t, what, seal(body), api.ErrForm)
	}
}

func TestP1003GetRefusesFormsOfTwo(t *testing.T) {
	first := piece(0, "abc", 5, 1, "v")
	for what, c := range map[string]struct {
		second string
		want   api.Errno
	}{
		"as it is":                {piece(2, "d", 1, 1, "v"), api.OK},
		"a lower number":          {piece(3, "", 4, 1, ""), api.OK},
		"shares too little":       {piece(1, "bd", 1, 1, "v"), api.ErrForm},
		"shares nothing":          {piece(0, "abd", 1, 1, "v"), api.ErrForm},
		"the same key anew":       {piece(0, "abc", 4, 1, "v"), api.ErrForm},
		"the same key, in part":   {piece(2, "c", 4, 1, "v"), api.ErrForm},
		"shares too much":         {piece(4, "", 1, 1, "v"), api.ErrForm},
		"shares 2^40":             {piece(1<<40, "", 1, 1, "v"), api.ErrForm},
		"shares 2^64 - 1":         {strings.Repeat("\xff", 9) + "\x01\x00\x01\x01\x00", api.ErrForm},
		"a key below":             {piece(2, "b", 1, 1, "v"), api.ErrForm},
		"a key that is shorter":   {piece(2, "", 9, 1, "v"), api.ErrForm},
		"the same number":         {piece(3, "", 5, 1, "v"), api.ErrForm},
		"a greater number":        {piece(3, "", 6, 1, "v"), api.ErrForm},
		"the longest key":         {piece(3, longKey[3:], 1, 1, "v"), api.OK},
		"too long a key":          {piece(3, longKey[2:], 1, 1, "v"), api.ErrForm},
		"cut":                     {piece(2, "d", 1, 1, "v")[:4], api.ErrForm},
		"a third that is none":    {piece(2, "d", 1, 1, "v") + "\x02", api.ErrForm},
		"the first one once more": {first, api.ErrForm},
	} {
		b := seal(first + c.second + four(0, 1))
		if c.want != api.OK {
			refuses(t, what, b, c.want)
		} else if l, e := Get(b); len(l) != 2 || e != api.OK {
			t.Errorf("%s: %v, %d", what, l, e)
		}
	}
}

func TestP1003GetRefusesRestarts(t *testing.T) {
	four4 := piece(0, "a", 9, 1, "") + piece(1, "", 8, 1, "") + piece(1, "", 7, 1, "") + piece(1, "", 6, 1, "")
	at, fifth := len(four4), piece(0, "ab", 5, 1, "")
	if l, e := Get(seal(four4 + fifth + four(0, at, 2))); len(l) != 5 || e != api.OK {
		t.Errorf("as it is: %v, %d", l, e)
	}
	for what, body := range map[string]string{
		"a restart that shares":    four4 + piece(1, "b", 5, 1, "") + four(0, at, 2),
		"a restart out of order":   four4 + piece(0, "a", 6, 1, "") + four(0, at, 2),
		"a restart below":          four4 + piece(0, "A", 6, 1, "") + four(0, at, 2),
		"no place of the second":   four4 + fifth + four(0, 1),
		"a place that is not it":   four4 + fifth + four(0, at-1, 2),
		"places that fall":         four4 + fifth + four(at, 0, 2),
		"a place of no restart":    four4 + fifth + four(0, 7, at, 3),
		"a place behind them":      four4 + fifth + four(0, at, at+len(fifth), 3),
		"a place of four versions": four4 + four(0, at, 2),
		"a count of one too few":   four4 + fifth + four(0, at, 1),
		"a count of one too many":  four4 + fifth + four(0, at, 3),
		"no places":                four4 + fifth + four(0),
	} {
		refuses(t, what, seal(body), api.ErrForm)
	}
}

func TestP1003GetTakesJustWhatPutLays(t *testing.T) {
	// Every byte of a block as every other one, and one more or fewer everywhere, well sealed: if Get takes it, Put lays it.
	body := plainBody(twelve())
	taken := 0
	holds := func(body string) {
		l, e := Get(seal(body))
		if e != api.OK {
			if e != api.ErrForm || len(l) > 0 {
				t.Fatalf("Get of %q: %v, %d", body, l, e)
			}
			return
		}
		taken++
		if b, e := Put(l...); b != seal(body) || e != api.OK || plainBody(l) != body {
			t.Fatalf("Get of %q: %v, of which Put lays %q, %d", body, l, b, e)
		}
	}
	for i := range body {
		for c := range 256 {
			holds(body[:i] + string([]byte{byte(c)}) + body[i+1:])
			holds(body[:i] + string([]byte{byte(c)}) + body[i:])
		}
		holds(body[:i])
		holds(body[i:])
		holds(body[:i] + body[i+1:])
	}
	// The body itself once a byte, and other values and numbers beside it.
	if taken < 2*len(body) {
		t.Errorf("but %d were taken", taken)
	}
}

func TestP1003Seek(t *testing.T) {
	for from := range len(twelve()) + 1 {
		l := twelve()[from:]
		b := lays(t, l...)
		for _, key := range []string{"", "\x00", "\x00\x00", "A", "a", "a\x00", "aa", "ab", "abb", "abc", "abcd", "abd", "abe", "b", "b\xfe", "b\xff", "c", "é", "\xff", longKey, longValue} {
			var want []api.Entry
			for _, e := range l {
				if e.Key >= key {
					want = append(want, e)
				}
			}
			if got, e := Seek(b, key); !slices.Equal(got, want) || e != api.OK {
				t.Fatalf("Seek %.20q of %v: %v, %d", key, l, got, e)
			}
		}
	}
}

func TestP1003AnswersAreNewMemory(t *testing.T) {
	b := lays(t, put("key", 3, "value"), put("key", 2, "value"), put("key", 1, "value"), put("keys", 1, ""), put("keys", 0, ""))
	inside := func(p, text string) bool {
		at, from := uintptr(unsafe.Pointer(unsafe.StringData(p))), uintptr(unsafe.Pointer(unsafe.StringData(text)))
		return at >= from && at < from+uintptr(len(text))
	}
	l, _ := Get(b)
	for i, e := range l {
		if inside(e.Key, b) || e.Value != "" && inside(e.Value, b) {
			t.Errorf("version %d stands in the bytes", i)
		}
		for _, other := range l[:i] {
			if inside(e.Key, other.Key) {
				t.Errorf("the key of version %d stands in another one", i)
			}
		}
	}
	first, _ := Get(b)
	l[0].Key = "changed"
	second, _ := Seek(b, "")
	if !slices.Equal(first, second) {
		t.Errorf("answers share memory: %v, %v", first, second)
	}
}

func TestP1004GetOfPut(t *testing.T) {
	// All lists of some of these, which stand in order.
	all := []api.Entry{
		put("", 1, "x"), gone("", 0), put("a", 3, ""), gone("a", 2), put("a", 1, "aa"), put("aa", 300, ""), put("aab", 2, "z"), gone("ab", 9), put("b", 1, ""), put("b\x00", 1, "b"),
	}
	for set := range 1 << len(all) {
		var l []api.Entry
		for i, e := range all {
			if set>>i&1 == 1 {
				l = append(l, e)
			}
		}
		lays(t, l...)
	}
}

func TestP1004SealIsThatOfSum(t *testing.T) {
	b, _ := Put(twelve()...)
	if body, e := sum.Open(b); e != api.OK || body != plainBody(twelve()) || sum.Seal(body) != b {
		t.Errorf("Open of Put: %q, %d", body, e)
	}
}

// A block whose bytes are few and whose keys would be many and long is refused at the first one that is wrong.
func TestFewBytesDoNotFillTheMemory(t *testing.T) {
	body := piece(0, longKey, 1, 1, "") + strings.Repeat(piece(api.MaxKey, "", 1, 1, ""), 1<<20) + four(0, 1)
	b := sum.Seal(body)
	n := testing.AllocsPerRun(1, func() { Get(b) })
	if _, e := Get(b); e != api.ErrForm || n > 100 {
		t.Errorf("%d, with %.0f pieces of memory", e, n)
	}
}
