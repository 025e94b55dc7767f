package bloom

import (
	"fmt"
	"math"
	"slices"
	"strings"
	"testing"

	"cornucopia/api"
)

// plainHash is the chapter word by word, in numbers that do not wrap round by themselves.
func plainHash(s string, seed uint64) uint64 {
	h := seed ^ 0x811c9dc5
	for _, c := range []byte(s) {
		h = (h ^ uint64(c)) * 16777619 % (1 << 32)
	}
	return h ^ h/(1<<15)
}

// plainPlaces tells the numbers of a key's bits among n.
func plainPlaces(key string, probes, n int) []int {
	var out []int
	for i := range uint64(probes) {
		out = append(out, int((plainHash(key, 0)+i*plainHash(key, 1))%uint64(n)))
	}
	return out
}

// plainMake is the chapter word by word: bits as bools, laid into bytes at the end.
func plainMake(bits, probes int, keys ...string) (string, api.Errno) {
	if bits < 1 || bits > 64 || probes < 1 || probes > 20 {
		return "", api.ErrArg
	}
	n := bits * len(keys)
	if n < 64 {
		n = 64
	}
	for n%8 != 0 {
		n++
	}
	if n > 1<<20 {
		return "", api.ErrLong
	}
	set := make([]bool, n)
	for _, key := range keys {
		for _, k := range plainPlaces(key, probes, n) {
			set[k] = true
		}
	}
	return lay(set, probes), api.OK
}

func lay(set []bool, probes int) string {
	out := make([]byte, len(set)/8)
	for k, is := range set {
		if is {
			out[k/8] += []byte{1, 2, 4, 8, 16, 32, 64, 128}[k%8]
		}
	}
	return string(out) + string([]byte{byte(probes)})
}

// plainMay is the chapter word by word, of bytes that are a filter.
func plainMay(f, key string) bool {
	n := (len(f) - 1) * 8
	for _, k := range plainPlaces(key, int(f[len(f)-1]), n) {
		if int(f[k/8])/[]int{1, 2, 4, 8, 16, 32, 64, 128}[k%8]%2 == 0 {
			return false
		}
	}
	return true
}

// someKeys are texts of all kinds.
func someKeys() []string {
	return []string{"", "a", "b", "ab", "ba", "\x00", "\x00\x00", "\xff", "\x80", "é", "key", strings.Repeat("k", api.MaxKey), strings.Repeat("\xff", 5000)}
}

// numbered tells so many keys that begin with a text.
func numbered(begin string, count int) []string {
	var out []string
	for i := range count {
		out = append(out, fmt.Sprint(begin, i))
	}
	return out
}

// makes makes a filter, and holds it against the chapter's.
func makes(t *testing.T, bits, probes int, keys ...string) string {
	t.Helper()
	want, wantErr := plainMake(bits, probes, keys...)
	got, e := Make(bits, probes, keys...)
	if got != want || e != wantErr {
		t.Fatalf("Make(%d, %d, %d keys %.60q): %.60q, %d, not %.60q, %d", bits, probes, len(keys), keys, got, e, want, wantErr)
	}
	return got
}

func TestExample(t *testing.T) {
	f, e := Make(10, 3)
	if len(f) != 9 || e != api.OK {
		t.Errorf("Make(10, 3): %q, %d", f, e)
	}
	if May(f, "a") {
		t.Error(`May "a" of an empty filter`)
	}
}

func TestP901Hash(t *testing.T) {
	// With seed 0, and ahead of the last step, the numbers that are known of this hash.
	for s, h := range map[string]uint32{"": 0x811c9dc5, "a": 0xe40c292c, "b": 0xe70c2de5, "foobar": 0xbf9cf968} {
		if got := Hash(s, 0); got != h^h>>15 {
			t.Errorf("Hash(%q, 0): %#x", s, got)
		}
	}
	for _, s := range someKeys() {
		for _, seed := range []uint32{0, 1, 2, 0x811c9dc5, 1 << 31, math.MaxUint32} {
			if got := Hash(s, seed); uint64(got) != plainHash(s, uint64(seed)) {
				t.Errorf("Hash(%.20q, %d): %#x", s, seed, got)
			}
		}
	}
}

func TestP902MakeLaysBits(t *testing.T) {
	for _, bits := range []int{1, 2, 7, 9, 10, 63, 64} {
		for _, probes := range []int{1, 2, 3, 7, 19, 20} {
			for _, count := range []int{0, 1, 2, 3, 7, 9, 13} {
				makes(t, bits, probes, someKeys()[:count]...)
				makes(t, bits, probes, numbered("k", count*17)...)
			}
		}
	}
	// A key twice sets nothing anew, and counts twice.
	makes(t, 40, 4, "a", "a", "a")
}

func TestP902MakeLength(t *testing.T) {
	for _, c := range []struct{ bits, count, size int }{
		{1, 0, 9}, {64, 0, 9}, {1, 1, 9}, {1, 63, 9}, {1, 64, 9}, {1, 65, 10}, {1, 72, 10}, {1, 73, 11},
		{64, 1, 9}, {64, 2, 17}, {10, 7, 10}, {10, 8, 11}, {9, 9, 12}, {33, 3, 14},
		{64, 1 << 14, 1<<17 + 1}, {1, 1 << 20, 1<<17 + 1}, {1, 1<<20 - 1, 1<<17 + 1}, {1, 1<<20 - 8, 1 << 17},
	} {
		f, e := Make(c.bits, 5, make([]string, c.count)...)
		if len(f) != c.size || e != api.OK || f[len(f)-1] != 5 {
			t.Errorf("Make of %d bits and %d keys: %d bytes, %d", c.bits, c.count, len(f), e)
		}
	}
}

func TestP902MakeRefuses(t *testing.T) {
	wrong := []int{math.MinInt, -64, -1, 0, 65, 66, 1 << 32, 1<<32 + 1, math.MaxInt}
	for _, bits := range wrong {
		makes(t, bits, 3, "a")
		makes(t, bits, 3)
	}
	for _, probes := range append(wrong, 21, 64, 256, 257) {
		makes(t, 10, probes, "a")
		makes(t, 10, probes)
	}
	makes(t, 0, 0)
	for _, c := range []struct{ bits, count int }{{64, 1<<14 + 1}, {1, 1<<20 + 1}, {3, 1<<20/3 + 1}, {64, 1 << 21}} {
		keys := make([]string, c.count)
		if f, e := Make(c.bits, 1, keys...); f != "" || e != api.ErrLong {
			t.Errorf("Make of %d bits and %d keys: %d bytes, %d", c.bits, c.count, len(f), e)
		}
		// What can't be is told ahead of what is too long.
		if f, e := Make(c.bits, 21, keys...); f != "" || e != api.ErrArg {
			t.Errorf("Make of %d bits, 21 probes and %d keys: %d bytes, %d", c.bits, c.count, len(f), e)
		}
	}
}

func TestP902TheGreatestFilter(t *testing.T) {
	makes(t, 64, 20, numbered("key", 1<<14)...)
	makes(t, 63, 7, numbered("key", 1<<14)...)
}

func TestP902KeysStand(t *testing.T) {
	room := append(someKeys(), "spare")
	keys := room[:len(room)-1]
	Make(10, 3, keys...)
	if !slices.Equal(room, append(someKeys(), "spare")) {
		t.Errorf("keys are changed: %.100q", room)
	}
}

func TestP903May(t *testing.T) {
	for _, probes := range []int{1, 2, 3, 10, 20} {
		for _, count := range []int{0, 1, 5, 20, 100} {
			f := makes(t, 10, probes, numbered("key", count)...)
			for _, key := range append(someKeys(), numbered("other", 200)...) {
				if got := May(f, key); got != plainMay(f, key) {
					t.Fatalf("May(%.40q, %.20q): %t", f, key, got)
				}
			}
		}
	}
}

func TestP903MayAsksEachBit(t *testing.T) {
	for _, key := range someKeys() {
		for _, size := range []int{1, 3, 8, 11, 100} {
			all := strings.Repeat("\xff", size) + "\x14"
			if !May(all, key) {
				t.Errorf("May(%.40q, %.20q)", all, key)
			}
			for _, k := range plainPlaces(key, 20, size*8) {
				f := []byte(all)
				f[k/8] ^= 1 << (k % 8)
				if May(string(f), key) {
					t.Errorf("May(%.40q, %.20q): bit %d is not set", f, key, k)
				}
			}
		}
	}
}

func TestP903MayOfBytesThatMakeDoesNotMake(t *testing.T) {
	// Shorter and longer ones than Make's are filters too.
	n := uint32(1664525)
	for _, size := range []int{1, 2, 3, 7, 1000, 1<<17 + 5} {
		f := make([]byte, size+1)
		for i := range f {
			n = n*1664525 + 1013904223
			f[i] = byte(n >> 24)
		}
		for probes := range byte(20) {
			f[size] = probes + 1
			for _, key := range someKeys() {
				if got := May(string(f), key); got != plainMay(string(f), key) {
					t.Fatalf("May of %d bytes, %d probes, %.20q: %t", size, probes+1, key, got)
				}
			}
		}
	}
}

func TestP903Valid(t *testing.T) {
	for last := range 256 {
		for _, bits := range []string{"", "\x00", "\xff", "\x00\x00", strings.Repeat("\x00", 500)} {
			f := bits + string([]byte{byte(last)})
			want := len(bits) > 0 && last >= 1 && last <= 20
			if Valid(f) != want {
				t.Errorf("Valid(%.20q) of last byte %d: %t", f, last, !want)
			}
			for _, key := range someKeys() {
				if !want && !May(f, key) {
					t.Errorf("May(%.20q, %.20q) of last byte %d", f, key, last)
				}
			}
		}
	}
	if Valid("") || !May("", "") || !May("", "a") {
		t.Error("no bytes are a filter")
	}
}

func TestP904EachKeyMayBeThere(t *testing.T) {
	for _, keys := range [][]string{someKeys(), numbered("key", 1000), numbered("", 300), {"a", "a", ""}} {
		for _, bits := range []int{1, 5, 10, 64} {
			for _, probes := range []int{1, 4, 7, 20} {
				f, e := Make(bits, probes, keys...)
				if e != api.OK || !Valid(f) {
					t.Fatalf("Make(%d, %d): %d", bits, probes, e)
				}
				for _, key := range keys {
					if !May(f, key) {
						t.Fatalf("May of %.20q, with %d bits and %d probes", key, bits, probes)
					}
				}
			}
		}
	}
}

func TestMostOthersAreNotThere(t *testing.T) {
	f, _ := Make(10, 7, numbered("key", 1000)...)
	wrong := 0
	for _, key := range numbered("other", 1000) {
		if May(f, key) {
			wrong++
		}
	}
	if wrong > 50 {
		t.Errorf("%d of 1000 keys that are not there may be", wrong)
	}
}
