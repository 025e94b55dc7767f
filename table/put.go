package table

import (
	"strings"

	"cornucopia/api"
	"cornucopia/block"
	"cornucopia/bloom"
	"cornucopia/ikey"
	"cornucopia/num"
	"cornucopia/sum"
)

// Put tells a table's bytes.
func Put(l ...api.Entry) (string, api.Errno) {
	if len(l) == 0 {
		return "", api.ErrArg
	}
	var body, index strings.Builder
	index.WriteString(num.Var(uint64(blocksOf(len(l)))))
	for at := 0; at < len(l); at += Block {
		// No block sees what the one ahead ends with.
		if at > 0 && ikey.Compare(l[at-1], l[at]) >= 0 {
			return "", api.ErrArg
		}
		b, e := block.Put(l[at:min(at+Block, len(l))]...)
		if e != api.OK {
			return "", e
		}
		index.WriteString(num.Text(l[at].Key))
		index.WriteString(num.Var(uint64(body.Len()), uint64(len(b))))
		body.WriteString(b)
	}
	index.WriteString(num.Var(uint64(len(l))))
	index.WriteString(num.Text(l[len(l)-1].Key))
	filter, e := bloom.Make(Bits, Probes, keysOf(l)...)
	if e != api.OK {
		return "", e
	}
	return join(body.String(), sum.Seal(filter), sum.Seal(index.String())), api.OK
}

// blocksOf tells how many blocks so many versions have.
func blocksOf(versions int) int { return (versions + Block - 1) / Block }

// keysOf tells the different keys of versions that stand in order.
func keysOf(l []api.Entry) []string {
	var keys []string
	for i, e := range l {
		if i == 0 || l[i-1].Key != e.Key {
			keys = append(keys, e.Key)
		}
	}
	return keys
}

// join tells a table's parts one behind the other, and behind them their footer.
func join(blocks, filter, index string) string {
	return blocks + filter + index + footer{
		filter: span{len(blocks), len(filter)},
		index:  span{len(blocks) + len(filter), len(index)},
	}.lay()
}
