package table

import (
	"fmt"
	"math"
	"strings"
	"testing"

	"cornucopia/api"
	"cornucopia/block"
	"cornucopia/bloom"
	"cornucopia/file"
)

// refuses holds Open of bytes, and Load of a file of them, against an error.
func refuses(t *testing.T, what, b string, want api.Errno) {
	t.Helper()
	if r, e := Open(b); r != nil || e != want {
		t.Errorf("%s: Open(%.80q): %v, %d, not %d", what, b, r != nil, e, want)
	}
	f := file.New(0)
	f.Create(Name(1))
	f.Append(Name(1), b)
	if r, e := Load(f, 1); r != nil || e != want {
		t.Errorf("%s: Load: %v, %d, not %d", what, r != nil, e, want)
	}
}

func turned(b string, i int, by byte) string { return b[:i] + string([]byte{b[i] ^ by}) + b[i+1:] }

func TestP1102OpenShort(t *testing.T) {
	b := plain(many(20)).whole()
	for n := range 28 {
		refuses(t, "cut", b[:n], api.ErrShort)
		refuses(t, "the end alone", b[len(b)-n:], api.ErrShort)
		refuses(t, "noughts", strings.Repeat("\x00", n), api.ErrShort)
	}
}

func TestP1102OpenFooterSum(t *testing.T) {
	b := plain(many(20)).whole()
	for n := 28; n < len(b); n++ {
		refuses(t, "cut", b[:n], api.ErrSum)
	}
	for i := len(b) - 28; i < len(b); i++ {
		for _, by := range []byte{1, 128, 255} {
			refuses(t, "a footer turned", turned(b, i, by), api.ErrSum)
		}
	}
	refuses(t, "a byte more", b+"\x00", api.ErrSum)
	refuses(t, "noughts", strings.Repeat("\x00", 28), api.ErrSum)
}

func TestP1102OpenSpoilt(t *testing.T) {
	p := plain(many(20))
	b := p.whole()
	for i := len(p.blocks); i < len(b); i++ {
		refuses(t, fmt.Sprint("turned at ", i), turned(b, i, 4), api.ErrSum)
	}
	// The blocks are not read.
	for i := range p.blocks {
		r := opened(t, turned(b, i, 4))
		if r.Read() != 0 || r.Len() != 20 || r.Blocks() != 3 {
			t.Fatalf("a block turned at %d: Read %d, Len %d, Blocks %d", i, r.Read(), r.Len(), r.Blocks())
		}
	}
}

func TestP1102OpenPlaces(t *testing.T) {
	p := plain(many(20))
	body := p.blocks + seal(p.filter) + seal(p.index)
	at, size := uint64(len(p.blocks)), uint64(len(p.filter)+4)
	at2, size2 := at+size, uint64(len(p.index)+4)
	opened(t, body+foot(at, size, at2, size2))
	for _, l := range [][]uint64{
		{at + 1, size, at2, size2}, {at - 1, size, at2, size2}, {at, size - 1, at2, size2}, {at, size + 1, at2, size2},
		{at, size, at2 - 1, size2}, {at, size, at2 + 1, size2}, {at, size, at2, size2 - 1}, {at, size, at2, size2 + 1},
		{at + 1<<40, size, at2, size2}, {at, size, at2, size2 + 1<<47}, {1<<48 - 1, size, at2, size2}, {at, 1<<48 - 1, at2, size2},
		{at, size, 1<<48 - 1, size2}, {at, size, at2, 1<<48 - 1}, {1<<48 - 1, 1<<48 - 1, 1<<48 - 1, 1<<48 - 1}, {0, 0, 0, 0},
		{at2, size2, at, size}, {at, size, at, size}, {at2, 1<<48 - size, at, size2}, {1, 1<<48 - 1, 0, at2 + size2},
	} {
		refuses(t, fmt.Sprint("places ", l), body+foot(l...), api.ErrForm)
	}
	right := foot(at, size, at2, size2)
	refuses(t, "a byte ahead of all", "x"+body+right, api.ErrForm)
	refuses(t, "a byte ahead of the footer", body+"x"+right, api.ErrForm)
	refuses(t, "a byte less", body[:len(body)-1]+right, api.ErrForm)
	// Places that are right, of other pieces.
	refuses(t, "a piece of a block is of the filter", body+foot(at-1, size+1, at2, size2), api.ErrSum)
	refuses(t, "a piece of the filter is of the index", body+foot(at, size-1, at2-1, size2+1), api.ErrSum)
	refuses(t, "a byte between blocks and filter", pieces{p.blocks + "x", p.filter, p.index}.whole(), api.ErrForm)
	refuses(t, "a byte fewer of the blocks", pieces{p.blocks[1:], p.filter, p.index}.whole(), api.ErrForm)
	refuses(t, "blocks that are not there", pieces{"", p.filter, p.index}.whole(), api.ErrForm)
}

func TestP1102OpenSeals(t *testing.T) {
	p := plain(many(20))
	filter, index := seal(p.filter), seal(p.index)
	with := func(filter, index string) string {
		at := uint64(len(p.blocks))
		return p.blocks + filter + index + foot(at, uint64(len(filter)), at+uint64(len(filter)), uint64(len(index)))
	}
	opened(t, with(filter, index))
	for what, c := range map[string]struct {
		filter, index string
		want          api.Errno
	}{
		"no filter":                    {"", index, api.ErrShort},
		"a filter of three bytes":      {"abc", index, api.ErrShort},
		"a filter that is not sealed":  {p.filter, index, api.ErrSum},
		"no index":                     {filter, "", api.ErrShort},
		"an index of three bytes":      {filter, "abc", api.ErrShort},
		"an index that is not sealed":  {filter, p.index, api.ErrSum},
		"neither":                      {"", "", api.ErrShort},
		"short ahead of spoilt":        {"", p.index, api.ErrShort},
		"spoilt ahead of short":        {p.filter, "", api.ErrSum},
		"no filter ahead of no index":  {seal(""), "", api.ErrForm},
		"no filter ahead of a bad one": {seal(""), p.index, api.ErrForm},
		"a bad filter, and no index":   {p.filter, seal(""), api.ErrSum},
	} {
		refuses(t, what, with(c.filter, c.index), c.want)
	}
	refuses(t, "a footer alone", foot(0, 0, 0, 0), api.ErrShort)
}

func TestP1102OpenFilter(t *testing.T) {
	made := func(bits, probes, keys int) string {
		f, e := bloom.Make(bits, probes, make([]string, keys)...)
		if e != api.OK {
			t.Fatalf("Make(%d, %d), of %d: %d", bits, probes, keys, e)
		}
		return f
	}
	p := plain(many(20))
	for what, filter := range map[string]string{
		"empty":                   "",
		"a byte":                  "\x04",
		"probes of 0":             p.filter[:len(p.filter)-1] + "\x00",
		"probes of 21":            p.filter[:len(p.filter)-1] + "\x15",
		"probes of 3":             p.filter[:len(p.filter)-1] + "\x03",
		"probes of 5":             made(10, 5, 10),
		"too few bits":            strings.Repeat("\xff", 7) + "\x04",
		"two bytes":               "\xff\x04",
		"bits that no keys have":  strings.Repeat("\xff", 11) + "\x04",
		"as many bytes no keys":   strings.Repeat("\xff", 16) + "\x04",
		"of more keys":            made(10, 4, 21),
		"of very many keys":       made(10, 4, 5000),
		"more than a filter has":  strings.Repeat("\xff", 1<<17+1) + "\x04",
		"20 bits for each of ten": strings.Repeat("\xff", 26) + "\x04",
	} {
		refuses(t, what, pieces{p.blocks, filter, p.index}.whole(), api.ErrForm)
	}
	// As many keys as versions, at the most.
	for versions := 1; versions <= 40; versions++ {
		p := plain(many(versions))
		for keys := 1; keys <= versions+3; keys++ {
			b := pieces{p.blocks, made(10, 4, keys), p.index}.whole()
			if keys <= max(versions, 6) {
				opened(t, b)
			} else {
				refuses(t, fmt.Sprintf("a filter of %d keys of %d", keys, versions), b, api.ErrForm)
			}
		}
	}
}

func TestP1102OpenGreatFilter(t *testing.T) {
	// Blocks without bytes: they are not read. Above 2^20 bits no filter is made, whatever the versions are.
	const blocks, keys = 20_000, 1 << 20 / 10
	var l []any
	for range blocks {
		l = append(l, "", 0, 0)
	}
	s := index(blocks, l, 8*blocks, "z")
	with := func(keys int) string {
		return pieces{"", strings.Repeat("\x00", (10*keys+7)/8) + "\x04", s}.whole()
	}
	opened(t, with(keys))
	refuses(t, "a key more", with(keys+1), api.ErrForm)
}

// index is an index of whatever; each block is a key, a place and a length.
func index(blocks int, l []any, versions int, last string) string {
	s := numbers(blocks)
	for _, x := range l {
		switch x := x.(type) {
		case string:
			s += text(x)
		case int:
			s += numbers(x)
		}
	}
	return s + numbers(versions) + text(last)
}

func TestP1102OpenIndex(t *testing.T) {
	l := many(20)
	p := plain(l)
	one, _ := block.Put(l[:8]...)
	two, _ := block.Put(l[8:16]...)
	// The lengths of the first, the second and the third block, and the third one's place.
	a, b, c, at := len(one), len(two), len(p.blocks)-len(one)-len(two), len(one)+len(two)
	three := func(keys ...string) []any {
		return []any{keys[0], 0, a, keys[1], a, b, keys[2], at, c}
	}
	right := three("k0000", "k0004", "k0008")
	if got := index(3, right, 20, "k0009"); got != p.index {
		t.Fatalf("%q, not %q", got, p.index)
	}
	wide := strings.Replace(p.index, "\x03", "\x83\x00", 1)
	for what, s := range map[string]string{
		"empty":                    "",
		"no blocks":                index(0, nil, 0, ""),
		"no blocks, one version":   index(0, nil, 1, "k0009"),
		"a byte more":              p.index + "\x00",
		"a number in two bytes":    wide,
		"two blocks of three":      index(2, right, 20, "k0009"),
		"four blocks of three":     index(4, right, 20, "k0009"),
		"very many blocks":         index(math.MaxInt, right, 20, "k0009"),
		"the first two":            index(2, right[:6], 16, "k0007"),
		"the last two":             index(2, right[3:], 12, "k0009"),
		"no versions":              index(3, right, 0, "k0009"),
		"versions of two blocks":   index(3, right, 16, "k0009"),
		"versions of four blocks":  index(3, right, 25, "k0009"),
		"very many versions":       index(3, right, math.MaxInt, "k0009"),
		"a first key that falls":   index(3, three("k0005", "k0004", "k0008"), 20, "k0009"),
		"a second key that falls":  index(3, three("k0000", "k0009", "k0008"), 20, "k0009"),
		"a third key that falls":   index(3, three("k0000", "k0004", "k0003"), 20, "k0009"),
		"a last key that falls":    index(3, right, 20, "k0007"),
		"no last key":              index(3, right, 20, ""),
		"a long first key":         index(3, three("k0000", "k0004", "k"+longKey), 20, "l"),
		"a long last key":          index(3, right, 20, "k"+longKey),
		"a block of one, two keys": index(3, right, 17, "k0009"),
		"a gap ahead":              index(3, []any{"k0000", 1, a - 1, "k0004", a, b, "k0008", at, c}, 20, "k0009"),
		"a gap":                    index(3, []any{"k0000", 0, a - 1, "k0004", a, b, "k0008", at, c}, 20, "k0009"),
		"a gap, told":              index(3, []any{"k0000", 0, a, "k0004", a + 1, b - 1, "k0008", at, c}, 20, "k0009"),
		"a place below":            index(3, []any{"k0000", 0, a, "k0004", a - 1, b, "k0008", at, c}, 20, "k0009"),
		"places of nought":         index(3, []any{"k0000", 0, a, "k0004", 0, b, "k0008", 0, c}, 20, "k0009"),
		"a gap behind":             index(3, []any{"k0000", 0, a, "k0004", a, b, "k0008", at, c - 1}, 20, "k0009"),
		"one over the other":       index(3, []any{"k0000", 0, a + 1, "k0004", a, b, "k0008", at, c}, 20, "k0009"),
		"over the filter":          index(3, []any{"k0000", 0, a, "k0004", a, b, "k0008", at, c + 1}, 20, "k0009"),
		"places changed":           index(3, []any{"k0000", b, a, "k0004", 0, b, "k0008", at, c}, 20, "k0009"),
		"a great length":           index(3, []any{"k0000", 0, math.MaxInt, "k0004", a, b, "k0008", at, c}, 20, "k0009"),
		"a length that wraps":      index(3, []any{"k0000", 0, a, "k0004", a, -a, "k0008", 0, at + c}, 20, "k0009"),
		"a great place":            index(3, []any{"k0000", 0, a, "k0004", math.MinInt, b, "k0008", at, c}, 20, "k0009"),
	} {
		refuses(t, what, pieces{p.blocks, p.filter, s}.whole(), api.ErrForm)
	}
	nothing, _ := bloom.Make(Bits, Probes)
	refuses(t, "nothing at all", pieces{"", nothing, index(0, nil, 0, "")}.whole(), api.ErrForm)
	for n := range p.index {
		refuses(t, fmt.Sprint("cut at ", n), pieces{p.blocks, p.filter, p.index[:n]}.whole(), api.ErrForm)
	}
	for what, s := range map[string]string{
		"keys alike":           index(3, three("k0004", "k0004", "k0004"), 20, "k0004"),
		"empty keys":           index(3, three("", "", ""), 20, ""),
		"the longest keys":     index(3, three("k0000", longKey, longKey), 20, longKey),
		"other keys that rise": index(3, three("a", "b", "\xff"), 24, "\xff\xff"),
		"a block of one":       index(3, right, 17, "k0008"),
	} {
		r, e := Open(pieces{p.blocks, p.filter, s}.whole())
		if e != api.OK || r.Blocks() != 3 || r.Read() != 0 {
			t.Errorf("%s: %d", what, e)
		}
	}
}

func TestP1102OpenKeepsNothing(t *testing.T) {
	b := []byte(plain(many(20)).whole())
	r := opened(t, string(b))
	clear(b)
	if l, e := r.Range("", ""); len(l) != 20 || e != api.OK {
		t.Errorf("%d versions, %d", len(l), e)
	}
}

// An index of few bytes that tells of very many blocks is refused at the first one that is not there.
func TestP1102FewBytesDoNotFillTheMemory(t *testing.T) {
	p := plain(many(20))
	for _, s := range []string{
		numbers(100_000) + strings.Repeat("\x00", 100),
		numbers(1<<30) + strings.Repeat("\x00", 100),
		numbers(1) + text("") + numbers(0, len(p.blocks), 1<<60) + text(""),
	} {
		b := pieces{p.blocks, p.filter, s}.whole()
		if n := testing.AllocsPerRun(1, func() { Open(b) }); n > 100 {
			t.Errorf("%.20q: %.0f pieces of memory", s, n)
		}
		refuses(t, "few bytes", b, api.ErrForm)
	}
}

func TestP1102Load(t *testing.T) {
	f := file.New(0)
	for num, count := range map[int]int{3: 9, 0: 1, 99_999_999: 33} {
		Write(f, num, 1, many(count)...)
		r, e := Load(f, num)
		if e != api.OK || r.Len() != count {
			t.Errorf("%d: %d, Len %d", num, e, r.Len())
		}
	}
	// A name is that of its number, modulo.
	if r, e := Load(f, -1); e != api.OK || r.Len() != 33 {
		t.Errorf("-1: %d", e)
	}
	no := func(what string, f *file.System, num int, want api.Errno) {
		t.Helper()
		if r, e := Load(f, num); r != nil || e != want {
			t.Errorf("%s: %v, %d, not %d", what, r != nil, e, want)
		}
	}
	no("a number that is not there", f, 4, api.ErrNone)
	no("no files", nil, 3, api.ErrOff)
	no("a zero system", &file.System{}, 3, api.ErrOff)
	f.Create(Name(5))
	no("an empty file", f, 5, api.ErrShort)
	f.Append(Name(3), "x")
	no("a byte more", f, 3, api.ErrSum)
	f.Crash(0)
	no("without power", f, 3, api.ErrOff)
	f.Restore()
	if r, e := Load(f, 3); e != api.OK || r.Len() != 9 {
		t.Errorf("behind a crash: %d", e)
	}
}
