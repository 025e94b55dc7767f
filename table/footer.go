package table

import (
	"cornucopia/api"
	"cornucopia/sum"
)

const (
	width      = 6           // bytes of a place, and of a length
	footerSize = 4*width + 4 // those of filter and index, and their sum
)

// span is where a part of a table stands.
type span struct{ at, size int }

func (s span) end() int { return s.at + s.size }

// cut tells the bytes of b that stand there.
func (s span) cut(b string) string { return b[s.at:s.end()] }

// footer tells where the filter and the index stand.
type footer struct{ filter, index span }

func (f footer) lay() string {
	var b []byte
	for _, v := range [...]int{f.filter.at, f.filter.size, f.index.at, f.index.size} {
		b = appendPlace(b, v)
	}
	return sum.Seal(string(b))
}

// readFooter tells the footer of a table, if filter, index and it itself stand one behind the other.
func readFooter(b string) (footer, api.Errno) {
	end := len(b) - footerSize
	if end < 0 {
		return footer{}, api.ErrShort
	}
	s, e := sum.Open(b[end:])
	if e != api.OK {
		return footer{}, e
	}
	f := footer{
		filter: span{place(s), place(s[width:])},
		index:  span{place(s[2*width:]), place(s[3*width:])},
	}
	if f.filter.end() != f.index.at || f.index.end() != end {
		return footer{}, api.ErrForm
	}
	return f, api.OK
}

func appendPlace(b []byte, at int) []byte {
	v := uint64(at)
	return append(b, byte(v>>40), byte(v>>32), byte(v>>24), byte(v>>16), byte(v>>8), byte(v))
}

// place tells the number of the six bytes at the front of b, the highest first. Two of these, added, do not wrap round.
func place(b string) int {
	v := uint64(0)
	for i := range width {
		v = v<<8 | uint64(b[i])
	}
	return int(v)
}
