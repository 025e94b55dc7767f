package table

import (
	"slices"
	"strings"

	"cornucopia/api"
	"cornucopia/bloom"
	"cornucopia/num"
	"cornucopia/sum"
)

// Open opens a table's bytes.
func Open(b string) (*Reader, api.Errno) {
	foot, e := readFooter(b)
	if e != api.OK {
		return nil, e
	}
	filter, e := sum.Open(foot.filter.cut(b))
	if e != api.OK {
		return nil, e
	}
	if !isFilter(filter) {
		return nil, api.ErrForm
	}
	index, e := sum.Open(foot.index.cut(b))
	if e != api.OK {
		return nil, e
	}
	// A copy: the reader keeps nothing that was handed in, and none of what it has read already.
	r, ok := readIndex(index, strings.Clone(b[:foot.filter.at]))
	if !ok || !fits(filter, r.count) {
		return nil, api.ErrForm
	}
	r.filter = filter
	return r, api.OK
}

// isFilter tells whether bytes are a filter such as a table's. Of which keys it was made, the blocks alone would tell.
func isFilter(f string) bool { return bloom.Valid(f) && f[len(f)-1] == Probes }

// The fewest and the most bits of a filter, whatever keys it has.
const (
	leastBits = 64
	mostBits  = 1 << 20
)

// fits tells whether a filter may be that of the different keys of so many versions, by its length.
func fits(f string, versions int) bool {
	size := len(f) - 1
	// A key takes more than a byte: above the fewest bits each number of keys has a length of its own.
	keys := min(versions, size*8/Bits, mostBits/Bits)
	return size == (max(keys*Bits, leastBits)+7)/8
}

// readIndex makes a reader, without its filter, of an index and the bytes of all blocks, if these stand as it says.
func readIndex(index, blocks string) (*Reader, bool) {
	in := num.NewReader(index)
	r := &Reader{}
	at := 0
	// As many blocks as bytes are never there: the bytes end ahead of them.
	for range in.Count(len(index)) {
		p, ok := readPart(in, blocks, at)
		if !ok {
			return nil, false
		}
		r.parts = append(r.parts, p)
		at += len(p.bytes)
	}
	r.count = in.Count(len(r.parts) * Block)
	r.last = in.Text(api.MaxKey)
	return r, in.End() == api.OK && at == len(blocks) && r.isWhole()
}

// readPart reads a block's first key, and cuts its bytes, if they stand just from at on.
func readPart(in *num.Reader, blocks string, at int) (part, bool) {
	first := in.Text(api.MaxKey)
	from := in.Count(at)
	size := in.Count(len(blocks) - at)
	if in.Err() != api.OK || from != at {
		return part{}, false
	}
	return part{first: first, bytes: blocks[at : at+size]}, true
}

// isWhole tells whether there are blocks, as many as the versions have, whose keys do not fall.
func (r *Reader) isWhole() bool {
	if len(r.parts) == 0 || blocksOf(r.count) != len(r.parts) {
		return false
	}
	end := r.parts[len(r.parts)-1].first
	// A last block of one version begins and ends with its key.
	if r.last < end || r.count%Block == 1 && r.last != end {
		return false
	}
	return slices.IsSortedFunc(r.parts, func(a, b part) int { return strings.Compare(a.first, b.first) })
}
