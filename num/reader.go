package num

import (
	"strings"

	"cornucopia/api"
)

// Reader reads from the front on what this package lays; its first error stays.
type Reader struct {
	rest string
	err  api.Errno
}

// NewReader makes a reader of some bytes.
func NewReader(b string) *Reader { return &Reader{rest: b} }

// Var reads a number.
func (r *Reader) Var() uint64 {
	if r.Err() != api.OK {
		return 0
	}
	v, rest, e := cutVar(r.rest)
	r.step(rest, e)
	return v
}

// Int reads an int.
func (r *Reader) Int() int { return Zag(r.Var()) }

// Count reads how many there are: most at the most.
func (r *Reader) Count(most int) int {
	if r.Err() != api.OK {
		return 0
	}
	n, rest, e := cutCount(r.rest, most)
	r.step(rest, e)
	return n
}

// Text reads a text of at most so many bytes.
func (r *Reader) Text(most int) string {
	if r.Err() != api.OK {
		return ""
	}
	s, rest, e := cutText(r.rest, most)
	r.step(rest, e)
	return s
}

// Bool reads a truth.
func (r *Reader) Bool() bool {
	if r.Err() != api.OK {
		return false
	}
	v, rest, e := cutBool(r.rest)
	r.step(rest, e)
	return v
}

// Fix reads a number of so many bytes.
func (r *Reader) Fix(n int) uint64 {
	if r.Err() != api.OK {
		return 0
	}
	v, e := Unfix(r.rest, 0, n)
	if e != api.OK {
		r.Fail(e)
		return 0
	}
	r.rest = r.rest[n:]
	return v
}

// Left tells how many bytes are left.
func (r *Reader) Left() int {
	if r == nil {
		return 0
	}
	return len(r.rest)
}

// Fail makes an error the first one, if there is none yet.
func (r *Reader) Fail(e api.Errno) {
	if r.Err() == api.OK {
		r.err = e
	}
}

// Err tells the first error.
func (r *Reader) Err() api.Errno {
	if r == nil {
		return api.ErrArg
	}
	return r.err
}

// End tells whether all was read, without an error.
func (r *Reader) End() api.Errno {
	if e := r.Err(); e != api.OK {
		return e
	}
	if r.Left() > 0 {
		return api.ErrForm
	}
	return api.OK
}

// step ends a read: one that failed has read nothing, not even a length that was well.
func (r *Reader) step(rest string, e api.Errno) {
	if e != api.OK {
		r.Fail(e)
		return
	}
	r.rest = rest
}

// The 64 bits of a number are nine groups of seven, and a tenth of one bit.
const (
	lastGroup = 9
	lastMost  = 1
)

// cutVar tells the number at the front of b, and what is behind it.
func cutVar(b string) (uint64, string, api.Errno) {
	v := uint64(0)
	for i := range len(b) {
		group := b[i]
		if i == lastGroup && group > lastMost || i > 0 && group == 0 {
			return 0, "", api.ErrForm
		}
		v |= uint64(group&127) << (7 * i)
		if group < 128 {
			return v, b[i+1:], api.OK
		}
	}
	return 0, "", api.ErrShort
}

func cutCount(b string, most int) (int, string, api.Errno) {
	v, rest, e := cutVar(b)
	if e != api.OK {
		return 0, "", e
	}
	if most < 0 || v > uint64(most) {
		return 0, "", api.ErrLong
	}
	return int(v), rest, api.OK
}

func cutText(b string, most int) (string, string, api.Errno) {
	n, rest, e := cutCount(b, most)
	if e != api.OK {
		return "", "", e
	}
	if n > len(rest) {
		return "", "", api.ErrShort
	}
	// A copy: a short text must not hold in memory all the bytes it stood among.
	return strings.Clone(rest[:n]), rest[n:], api.OK
}

func cutBool(b string) (bool, string, api.Errno) {
	if b == "" {
		return false, "", api.ErrShort
	}
	if b[0] > 1 {
		return false, "", api.ErrForm
	}
	return b[0] == 1, b[1:], api.OK
}
