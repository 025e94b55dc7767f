package table

import (
	"sort"
	"strings"

	"cornucopia/api"
	"cornucopia/block"
	"cornucopia/bloom"
	"cornucopia/ikey"
)

// Reader reads a table.
type Reader struct {
	parts  []part // none in a zero one alone
	last   string // the last key
	count  int    // versions
	filter string
	reads  int // blocks that were read
}

// part is a block that is not read yet, and the first key of it.
type part struct{ first, bytes string }

// Get tells the version of a key at a number.
func (r *Reader) Get(key string, seq uint64) (api.Entry, bool, api.Errno) {
	if r.isNone() {
		return api.Entry{}, false, api.ErrArg
	}
	if !bloom.May(r.filter, key) {
		return api.Entry{}, false, api.OK
	}
	for i := r.start(key); i < len(r.parts) && r.parts[i].first <= key; i++ {
		l, e := r.read(i)
		if e != api.OK {
			return api.Entry{}, false, e
		}
		// Newer ones stand ahead: what the next block has of the key is older.
		if v, ok := ikey.Pick(l, key, seq); ok {
			return v, true, api.OK
		}
	}
	return api.Entry{}, false, api.OK
}

// Range tells versions of keys between two.
func (r *Reader) Range(from, to string) ([]api.Entry, api.Errno) {
	if r.isNone() {
		return nil, api.ErrArg
	}
	within := func(key string) bool { return key >= from && (to == "" || key < to) }
	var out []api.Entry
	// The least key that a block may have of those from from on tells whether it may have one below to.
	for i := r.start(from); i < len(r.parts) && within(max(from, r.parts[i].first)); i++ {
		l, e := r.read(i)
		if e != api.OK {
			return nil, e
		}
		for _, v := range l {
			if within(v.Key) {
				out = append(out, v)
			}
		}
	}
	return out, api.OK
}

// start tells the number of the first block that may have a key from that one on.
func (r *Reader) start(key string) int {
	return sort.Search(len(r.parts), func(i int) bool { return r.most(i) >= key })
}

// most tells the greatest key that a block may have: older versions of its last one may begin the next block.
func (r *Reader) most(i int) string {
	if i+1 < len(r.parts) {
		return r.parts[i+1].first
	}
	return r.last
}

// read tells a block's versions.
func (r *Reader) read(i int) ([]api.Entry, api.Errno) {
	r.reads++
	return block.Get(r.parts[i].bytes)
}

// Len tells how many versions there are.
func (r *Reader) Len() int {
	if r == nil {
		return 0
	}
	return r.count
}

// Blocks tells how many blocks there are.
func (r *Reader) Blocks() int {
	if r == nil {
		return 0
	}
	return len(r.parts)
}

// Ends tells the first and the last key.
func (r *Reader) Ends() (string, string) {
	if r.isNone() {
		return "", ""
	}
	return strings.Clone(r.parts[0].first), strings.Clone(r.last)
}

// Read tells how many blocks were read.
func (r *Reader) Read() int {
	if r == nil {
		return 0
	}
	return r.reads
}

// isNone tells whether there is no table to read.
func (r *Reader) isNone() bool { return r == nil || len(r.parts) == 0 }
