package file

import (
	"maps"
	"slices"
)

// directory has files by their names.
type directory map[string]*content

func (d directory) names() []string { return slices.Sorted(maps.Keys(d)) }

// content is a file's bytes: the first synced ones stay, whatever happens.
type content struct {
	bytes  []byte
	synced int
}

// cut takes away what is not synced, but for the first keep bytes of it.
func (c *content) cut(keep int) {
	c.synced += modulo(keep, len(c.bytes)-c.synced+1)
	c.bytes = c.bytes[:c.synced]
}

func (c *content) twin() *content {
	if c == nil {
		return nil
	}
	return &content{bytes: slices.Clone(c.bytes), synced: c.synced}
}

// change is what was done to a directory: the file named from, or one that was made, is named to. No name is empty: without from nothing loses its name, without to the file is gone.
type change struct {
	from, to string
	made     *content
}

func (c change) do(d directory) {
	file := c.made
	if c.from != "" {
		file = d[c.from]
		delete(d, c.from)
	}
	if c.to != "" {
		d[c.to] = file
	}
}

// redo tells what changes make of a directory, which stays.
func redo(d directory, l []change) directory {
	d = maps.Clone(d)
	for _, c := range l {
		c.do(d)
	}
	return d
}

// countdown is how many come ahead of the one at which it ends; below 0 it never does.
type countdown int

const never countdown = -1

// ends counts one, and tells whether it ends at it: then it is over.
func (c *countdown) ends() bool {
	if *c < 0 {
		return false
	}
	*c--
	return *c < 0
}

// modulo is from 0 on, below 0 too.
func modulo(n, by int) int { return (n%by + by) % by }
