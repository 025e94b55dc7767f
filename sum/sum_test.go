package sum

import (
	"hash/crc32"
	"slices"
	"strings"
	"testing"
	"unsafe"

	"cornucopia/api"
)

// texts are short ones, of bytes that mean something and of others, and some longer ones.
func texts() []string {
	l := []string{"", "a", "hello", "\x00", "\x00\x00\x00\x00", "\xff\xff\xff\xff", "\x00\x00\x00\x01a", "é", strings.Repeat("\x00", 300), strings.Repeat("xyz", 20001)}
	for i := range 256 {
		l = append(l, string([]byte{byte(i)}), string([]byte{byte(i), byte(i * 7), byte(i * 31)}))
	}
	return append(l, Frame("a", "bc"), Seal("a"))
}

// changed tells s with the byte at i turned by the bits of by.
func changed(s string, i int, by byte) string {
	b := []byte(s)
	b[i] ^= by
	return string(b)
}

func TestP301Crc(t *testing.T) {
	for _, c := range []struct {
		l    []string
		want uint32
	}{
		{nil, 0},
		{[]string{""}, 0},
		{[]string{"", "", ""}, 0},
		{[]string{"123456789"}, 0xe3069283},
		{[]string{"12345", "6789"}, 0xe3069283},
		{[]string{"", "1", "2345678", "", "9", ""}, 0xe3069283},
		{[]string{"a"}, 0xc1d04330},
		{[]string{"\x00"}, 0x527d5351},
		{[]string{strings.Repeat("\x00", 32)}, 0x8a9136aa},
		{[]string{strings.Repeat("\xff", 32)}, 0x62a8ab43},
	} {
		if got := Crc(c.l...); got != c.want {
			t.Errorf("Crc(%q): %#x, not %#x", c.l, got, c.want)
		}
	}
}

// plain is the promise word by word.
func plain(s string) uint32 {
	x := uint32(1<<32 - 1)
	for i := range len(s) {
		x ^= uint32(s[i])
		for range 8 {
			odd := x%2 == 1
			x /= 2
			if odd {
				x ^= 0x82f63b78
			}
		}
	}
	return x ^ (1<<32 - 1)
}

func TestP301AsTheLibrary(t *testing.T) {
	table := crc32.MakeTable(crc32.Castagnoli)
	for _, s := range texts() {
		want := crc32.Checksum([]byte(s), table)
		if got := Crc(s); got != want || got != plain(s) {
			t.Errorf("Crc(%.20q): %#x, not %#x", s, got, want)
		}
		half := len(s) / 2
		if got := Crc(s[:half], s[half:]); got != want {
			t.Errorf("Crc(%.20q) in two: %#x, not %#x", s, got, want)
		}
	}
}

func TestP302Frame(t *testing.T) {
	for _, c := range []struct {
		l    []string
		want string
	}{
		{nil, ""},
		{[]string{""}, "\x00\x00\x00\x00" + "\x48\x67\x4b\xc7"},
		{[]string{"a"}, "\x00\x00\x00\x01" + "\xc5\x7d\xfe\x23" + "a"},
		{[]string{"a", "", "a"}, "\x00\x00\x00\x01\xc5\x7d\xfe\x23a" + "\x00\x00\x00\x00\x48\x67\x4b\xc7" + "\x00\x00\x00\x01\xc5\x7d\xfe\x23a"},
	} {
		if got := Frame(c.l...); got != c.want {
			t.Errorf("Frame(%q): %q, not %q", c.l, got, c.want)
		}
	}
	for _, n := range []int{255, 256, 65535, 65536, 0x010203} {
		s := strings.Repeat("x", n)
		length := string([]byte{0, byte(n >> 16), byte(n >> 8), byte(n)})
		x := plain(length + s)
		crc := string([]byte{byte(x >> 24), byte(x >> 16), byte(x >> 8), byte(x)})
		if Frame(s) != length+crc+s {
			t.Errorf("Frame of %d bytes is another", n)
		}
	}
}

// scan holds what Scan answers against what is wanted.
func scan(t *testing.T, what, b string, n int, want ...string) {
	t.Helper()
	if got, m := Scan(b); !slices.Equal(got, want) || m != n {
		t.Errorf("Scan of %s: %.100q, %d, not %.100q, %d", what, got, m, want, n)
	}
}

// forged is a frame of s but for its length; its sum is that of the length it tells.
func forged(length, s string) string { return length + lay(Crc(length, s)) + s }

func TestP302Scan(t *testing.T) {
	a, three := Frame("a"), Frame("a", "", "bcd")
	scan(t, "nothing", "", 0)
	scan(t, "one", a, 9, "a")
	scan(t, "one and a byte", a+"x", 9, "a")
	scan(t, "an empty one", Frame(""), 8, "")
	scan(t, "three", three, 28, "a", "", "bcd")
	scan(t, "three, and noughts", three+strings.Repeat("\x00", 100), 28, "a", "", "bcd")
	scan(t, "seven bytes", a[:7], 0)
	scan(t, "a head alone", a[:8], 0)
	scan(t, "a length of one more than what is left", forged("\x00\x00\x00\x02", "a"), 0)
	scan(t, "a length of one fewer than its sum has", forged("\x00\x00\x00\x01", "ab"), 0)
	scan(t, "the greatest length", forged("\xff\xff\xff\xff", "a"), 0)
	scan(t, "a length with the highest bit", a+forged("\x80\x00\x00\x01", "a"), 9, "a")
	scan(t, "a wrong one ahead of others", "x"+three, 0)
	scan(t, "a wrong one among others", a+changed(a, 8, 1)+a, 9, "a")
	scan(t, "a sum without its length", lay(1)+lay(Crc("a"))+"a", 0)
	scan(t, "a sum the lowest byte first", "\x00\x00\x00\x01\x23\xfe\x7d\xc5a", 0)
}

func TestP302ScanOfEachPrefix(t *testing.T) {
	texts := []string{"a", "", "bcd", "\x00\x00\x00\x00\x00\x00\x00\x00", ""}
	b := Frame(texts...)
	for n := range len(b) + 1 {
		whole, size := 0, 0
		for whole < len(texts) && size+8+len(texts[whole]) <= n {
			size += 8 + len(texts[whole])
			whole++
		}
		scan(t, "a prefix", b[:n], size, texts[:whole]...)
	}
}

func TestP302ScanOfChanged(t *testing.T) {
	texts := []string{"a", "bcd", "", "efghij"}
	b := Frame(texts...)
	for i := range len(b) {
		whole, size := 0, 0
		for size+8+len(texts[whole]) <= i {
			size += 8 + len(texts[whole])
			whole++
		}
		for by := 1; by < 256; by++ {
			scan(t, "a changed one", changed(b, i, byte(by)), size, texts[:whole]...)
		}
	}
}

func TestP302ScanAtTheMost(t *testing.T) {
	most := strings.Repeat("m", api.MaxBatch)
	scan(t, "the longest record", Frame(most, "a"), 8+len(most)+9, most, "a")
	scan(t, "one too long", Frame("a", most+"m", "b"), 9, "a")
}

func TestP303Seal(t *testing.T) {
	for _, c := range []struct{ s, want string }{
		{"", "\x00\x00\x00\x00"},
		{"a", "a\xc1\xd0\x43\x30"},
		{"123456789", "123456789\xe3\x06\x92\x83"},
	} {
		if got := Seal(c.s); got != c.want {
			t.Errorf("Seal(%q): %q, not %q", c.s, got, c.want)
		}
	}
}

func TestP303Open(t *testing.T) {
	for _, c := range []struct {
		b, want string
		e       api.Errno
	}{
		{"\x00\x00\x00\x00", "", api.OK},
		{"a\xc1\xd0\x43\x30", "a", api.OK},
		{"123456789\xe3\x06\x92\x83", "123456789", api.OK},
		{"", "", api.ErrShort},
		{"\x00", "", api.ErrShort},
		{"\x00\x00\x00", "", api.ErrShort},
		{"\xc1\xd0\x43", "", api.ErrShort},
		{"\x00\x00\x00\x01", "", api.ErrSum},
		{"\xc1\xd0\x43\x30", "", api.ErrSum},
		{"\x00\x00\x00\x00\x00", "", api.ErrSum},
		{"a\x30\x43\xd0\xc1", "", api.ErrSum},
		{"b\xc1\xd0\x43\x30", "", api.ErrSum},
		{"a\xc1\xd0\x43\x30x", "", api.ErrSum},
		{"a\xc1\xd0\x43", "", api.ErrSum},
	} {
		if got, e := Open(c.b); got != c.want || e != c.e {
			t.Errorf("Open(%q): %q, %d, not %q, %d", c.b, got, e, c.want, c.e)
		}
	}
}

func TestP304ThereAndBack(t *testing.T) {
	l := texts()
	n := 0
	for _, s := range l {
		n += 8 + len(s)
		if got, e := Open(Seal(s)); got != s || e != api.OK {
			t.Errorf("Open(Seal(%.20q)): %.20q, %d", s, got, e)
		}
		scan(t, "one", Frame(s), 8+len(s), s)
	}
	scan(t, "all", Frame(l...), n, l...)
	most := strings.Repeat("m", api.MaxBatch+1)
	if got, e := Open(Seal(most)); got != most || e != api.OK {
		t.Errorf("Open(Seal) of %d bytes: %d bytes, %d", len(most), len(got), e)
	}
}

func TestP304ChangedByte(t *testing.T) {
	for _, s := range []string{"", "a", "hello", strings.Repeat("\x00", 300)} {
		b := Seal(s)
		for i := range len(b) {
			for by := 1; by < 256; by++ {
				if got, e := Open(changed(b, i, byte(by))); got != "" || e != api.ErrSum {
					t.Fatalf("%.20q with byte %d turned by %d: %q, %d", s, i, by, got, e)
				}
			}
		}
	}
}

// within tells whether s stands in the memory of b.
func within(s, b string) bool {
	at, from := uintptr(unsafe.Pointer(unsafe.StringData(s))), uintptr(unsafe.Pointer(unsafe.StringData(b)))
	return from <= at && at < from+uintptr(len(b))
}

func TestP302P303NewMemory(t *testing.T) {
	framed, sealed := Frame("hello", "again"), Seal("hello")
	l, _ := Scan(framed)
	for _, s := range l {
		if within(s, framed) {
			t.Errorf("Scan: %q shares memory with what was handed in", s)
		}
	}
	if s, _ := Open(sealed); within(s, sealed) {
		t.Errorf("Open: %q shares memory with what was handed in", s)
	}
}
