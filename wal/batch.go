package wal

import (
	"strings"

	"cornucopia/api"
	"cornucopia/num"
)

// Batch is writes that are there whole, or not at all.
type Batch struct {
	First  uint64
	Writes []api.Write
}

// PutBatch tells a batch as bytes.
func PutBatch(b Batch) (string, api.Errno) {
	if !areRight(b.Writes) {
		return "", api.ErrArg
	}
	var s strings.Builder
	s.WriteString(num.Var(b.First, uint64(len(b.Writes))))
	for _, w := range b.Writes {
		s.WriteString(num.Bool(w.Del))
		s.WriteString(num.Text(w.Key, w.Value))
		// Told at once: no more is laid than there may be.
		if s.Len() > api.MaxBatch {
			return "", api.ErrLong
		}
	}
	return s.String(), api.OK
}

// GetBatch tells the batch of some bytes.
func GetBatch(s string) (Batch, api.Errno) {
	r := num.NewReader(s)
	b := Batch{First: r.Var()}
	count := r.Count(api.MaxData)
	for i := 0; i < count && r.Err() == api.OK; i++ {
		w := api.Write{Del: r.Bool(), Key: r.Text(api.MaxKey), Value: r.Text(api.MaxData)}
		b.Writes = append(b.Writes, w)
	}
	if e := r.End(); e != api.OK {
		return Batch{}, e
	}
	// There is but one way to lay a batch: s is what PutBatch would lay.
	if !areRight(b.Writes) || len(s) > api.MaxBatch {
		return Batch{}, api.ErrForm
	}
	return b, api.OK
}

// areRight tells whether there are writes, and each may be in a batch.
func areRight(l []api.Write) bool {
	for _, w := range l {
		if len(w.Key) > api.MaxKey || len(w.Value) > api.MaxData || w.Del && w.Value != "" {
			return false
		}
	}
	return len(l) > 0
}
