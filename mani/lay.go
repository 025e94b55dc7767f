package mani

import (
	"cornucopia/api"
	"cornucopia/edit"
	"cornucopia/file"
	"cornucopia/sum"
)

const (
	current = "CURRENT"  // the file that has the name of the file of edits
	coming  = "CURRENT~" // what is CURRENT as soon as it is whole
)

// mostOfKind is how many tables, and how many numbers to drop, edit.Get takes.
const mostOfKind = 10_000

// isReadable tells whether edit.Get takes the bytes of an edit that edit.Apply takes.
func isReadable(e edit.Edit) bool {
	return len(e.Add) <= mostOfKind && len(e.Drop) <= mostOfKind
}

// layAnew goes on with a new file, of the next number, that makes the version v at once; that number is given then.
func (m *Manifest) layAnew(v edit.Version) api.Errno {
	old, num := m.num, v.Next
	if num >= mostNext {
		return api.ErrMost
	}
	v.Next++
	if e := m.lay(num, v); e != api.OK {
		return e
	}
	// A file that was laid by somebody else may have had this very name: it is gone already, and this is the new one.
	if old != num {
		m.files.Remove(Name(old))
	}
	return api.OK
}

// lay makes a file of edits, of this number, that makes the version v, and goes on with it.
func (m *Manifest) lay(num int, v edit.Version) api.Errno {
	name := Name(num)
	if e := replace(m.files, name, whole(v)); e != api.OK {
		return e
	}
	// Ahead of the switch: CURRENT never tells a name that could be lost.
	if e := m.files.SyncDir(); e != api.OK {
		return e
	}
	if e := switchTo(m.files, name); e != api.OK {
		return e
	}
	m.num, m.version = num, v
	return api.OK
}

// whole tells the frames that make a right version of nothing: one, but where edit.Get would refuse it for its many tables.
func whole(v edit.Version) string {
	x := edit.Whole(v)
	tables := x.Add
	var l []string
	for {
		n := min(len(tables), mostOfKind)
		x.Add, tables = tables[:n], tables[n:]
		// What is right has no int below 0: there is no error to tell.
		b, _ := edit.Put(x)
		l = append(l, b)
		if len(tables) == 0 {
			return sum.Frame(l...)
		}
	}
}

// switchTo makes the file of this name the one that counts. A name is renamed whole or not at all, and so CURRENT tells the old one or the new one.
func switchTo(f *file.System, name string) api.Errno {
	if e := replace(f, coming, name); e != api.OK {
		return e
	}
	if e := f.Rename(coming, current); e != api.OK {
		return e
	}
	return f.SyncDir()
}

// replace makes a file of these bytes, synced, in place of one that is there.
func replace(f *file.System, name, b string) api.Errno {
	if _, e := f.Read(name); e == api.OK {
		if e := f.Remove(name); e != api.OK {
			return e
		}
	}
	if e := f.Create(name); e != api.OK {
		return e
	}
	if e := f.Append(name, b); e != api.OK {
		return e
	}
	return f.Sync(name)
}
