package file

import (
	"fmt"
	"maps"
	"slices"
	"strings"
	"testing"

	"cornucopia/api"
)

// draws are numbers that are the same at each run.
type draws uint64

func (d *draws) next(most int) int {
	*d = *d*6364136223846793005 + 1442695040888963407
	return int(uint64(*d>>33) % uint64(most))
}

// plain is the chapter word by word: it keeps the whole directory behind each change, and numbers the files.
type plain struct {
	on          bool
	room, steps int
	fuse, bad   int
	text        []string // of each file
	synced      []int
	dirs        []map[string]int // as at the last SyncDir, and behind each change since
}

func newPlain(room int) *plain {
	return &plain{on: true, room: room, fuse: -1, bad: -1, dirs: []map[string]int{{}}}
}

func (p *plain) dir() map[string]int { return p.dirs[len(p.dirs)-1] }

func (p *plain) used() int {
	n := 0
	for _, i := range p.dir() {
		n += len(p.text[i])
	}
	return n
}

// turn counts down; it tells whether it is the one.
func turn(n *int) bool {
	hit := *n == 0
	if *n >= 0 {
		*n = *n - 1
	}
	return hit
}

func (p *plain) try(word, a, b string) api.Errno {
	if !p.on {
		return api.ErrOff
	}
	p.steps++
	isSync := word == "sync" || word == "syncdir"
	fails, bad := turn(&p.fuse), isSync && turn(&p.bad)
	e := api.OK
	switch {
	case fails && isSync:
	case bad:
		e = api.ErrIO
	default:
		e = p.do(word, a, b)
	}
	if fails {
		p.on = false
		return api.ErrOff
	}
	return e
}

func (p *plain) do(word, a, b string) api.Errno {
	next := maps.Clone(p.dir())
	file, there := next[a]
	switch word {
	case "create":
		if a == "" || len(a) > 20 {
			return api.ErrArg
		}
		if there {
			return api.ErrDup
		}
		next[a] = len(p.text)
		p.text, p.synced = append(p.text, ""), append(p.synced, 0)
		p.dirs = append(p.dirs, next)
		return api.OK
	case "syncdir":
		p.dirs = []map[string]int{next}
		return api.OK
	}
	if !there {
		return api.ErrNone
	}
	switch word {
	case "append":
		if p.room > 0 && p.used()+len(b) > p.room {
			return api.ErrFull
		}
		p.text[file] += b
	case "sync":
		p.synced[file] = len(p.text[file])
	case "rename":
		if b == "" || len(b) > 20 {
			return api.ErrArg
		}
		if a == b {
			return api.OK
		}
		delete(next, a)
		next[b] = file
		p.dirs = append(p.dirs, next)
	case "remove":
		delete(next, a)
		p.dirs = append(p.dirs, next)
	}
	return api.OK
}

// within tells which number from 0 to most n is, modulo one more than most.
func within(n, most int) int {
	for n < 0 {
		n += most + 1
	}
	for n > most {
		n -= most + 1
	}
	return n
}

func (p *plain) crash(dir int, keep ...int) {
	now := p.dirs[within(dir, len(p.dirs)-1)]
	p.on, p.fuse, p.bad, p.dirs = false, -1, -1, []map[string]int{now}
	for place, name := range slices.Sorted(maps.Keys(now)) {
		n := 0
		if place < len(keep) {
			n = keep[place]
		}
		i := now[name]
		p.synced[i] += within(n, len(p.text[i])-p.synced[i])
		p.text[i] = p.text[i][:p.synced[i]]
	}
}

func (p *plain) all() []string {
	l := []string{}
	for _, name := range slices.Sorted(maps.Keys(p.dir())) {
		l = append(l, name+"="+p.text[p.dir()[name]])
	}
	if !p.on {
		return []string{}
	}
	return l
}

// try does the operation of that word.
func try(f *System, word, a, b string) api.Errno {
	switch word {
	case "create":
		return f.Create(a)
	case "append":
		return f.Append(a, b)
	case "sync":
		return f.Sync(a)
	case "syncdir":
		return f.SyncDir()
	case "rename":
		return f.Rename(a, b)
	}
	return f.Remove(a)
}

// some draws an operation.
func some(d *draws) (string, string, string) {
	words := []string{"create", "create", "append", "append", "append", "append", "sync", "sync", "syncdir", "rename", "rename", "remove"}
	names := []string{"a", "b", "c", "d", "a", "b", "c", "d", "", strings.Repeat("n", 20), strings.Repeat("n", 21)}
	word, a, b := words[d.next(len(words))], names[d.next(len(names))], names[d.next(len(names))]
	if word == "append" {
		b = "0123456789"[d.next(5):][:d.next(6)]
	}
	return word, a, b
}

func TestP401P402P403P404AsTheModel(t *testing.T) {
	for seed := range 150 {
		d := draws(seed)
		room := []int{0, 0, 12, 30}[seed%4]
		f, p := New(room), newPlain(room)
		told := ""
		for range 250 {
			switch d.next(40) {
			case 0:
				n := d.next(8) - 1
				f.Fuse(n)
				p.fuse = n
				told = fmt.Sprint("fuse ", n)
			case 1:
				n := d.next(6) - 1
				f.Bad(n)
				p.bad = n
				told = fmt.Sprint("bad ", n)
			case 2:
				dir, keep := d.next(20)-10, []int{d.next(20) - 10, d.next(20) - 10, d.next(20) - 10}[:d.next(4)]
				f.Crash(dir, keep...)
				p.crash(dir, keep...)
				told = fmt.Sprint("crash ", dir, keep)
			case 3, 4, 5:
				f.Restore()
				p.on = true
				told = "restore"
			case 6:
				f = f.Twin()
				told = "twin"
			default:
				word, a, b := some(&d)
				told = fmt.Sprintf("%s %q %q", word, a, b)
				errs(t, told, list(try(f, word, a, b)), p.try(word, a, b))
			}
			is(t, told, all(f), p.all())
			if f.On() != p.on || f.Steps() != p.steps || f.Used() != p.used() {
				t.Errorf("%s: power %v, %d steps, %d bytes; not %v, %d, %d", told, f.On(), f.Steps(), f.Used(), p.on, p.steps, p.used())
			}
			if t.Failed() {
				t.Fatalf("seed %d", seed)
			}
		}
	}
}

// safe is what P405 says of each name: its bytes that must stay, if its making was followed by a SyncDir.
type safe map[string]*struct {
	text string
	made bool
}

// learn takes in an operation that was OK.
func (s safe) learn(f *System, word, a, b string) {
	switch word {
	case "create":
		s[a] = &struct {
			text string
			made bool
		}{}
	case "sync":
		s[a].text, _ = f.Read(a)
	case "syncdir":
		for _, x := range s {
			x.made = true
		}
	case "rename":
		if a != b {
			// The name is made anew with it, of a file whose synced bytes it then has.
			s[b] = s[a]
			s[b].made = false
			delete(s, a)
		}
	case "remove":
		delete(s, a)
	}
}

func (s safe) hold(t *testing.T, f *System) {
	t.Helper()
	for name, x := range s {
		if got, e := f.Read(name); x.made && (e != api.OK || !strings.HasPrefix(got, x.text)) {
			t.Errorf("%q has %q, error %d, not %q", name, got, e, x.text)
		}
	}
}

func TestP405WhatWasSyncedIsThere(t *testing.T) {
	for seed := range 60 {
		d := draws(seed)
		f, s := New(0), safe{}
		for range 60 {
			word, a, b := some(&d)
			if e := try(f, word, a, b); e == api.OK {
				s.learn(f, word, a, b)
			}
			// A power that fails at an operation that takes nothing away, and none at all.
			for _, last := range []string{"", "create", "append", "sync", "syncdir"} {
				for dir := range 6 {
					g := f.Twin()
					if last != "" {
						g.Fuse(0)
						errs(t, last, list(try(g, last, "a", "x")), api.ErrOff)
					}
					g.Crash(dir, d.next(9), d.next(9))
					g.Restore()
					s.hold(t, g)
				}
			}
			if t.Failed() {
				t.Fatalf("seed %d: behind %s %q %q", seed, word, a, b)
			}
		}
	}
}
