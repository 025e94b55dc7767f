package wal

import "cornucopia/file"

// A segment's name is a letter and its number's digits.
const (
	letter  = 'w'
	digits  = 8
	numbers = 100_000_000 // as many as these digits tell
)

// Name tells a segment's name.
func Name(num int) string {
	num = modulo(num)
	b := [1 + digits]byte{letter}
	for i := digits; i > 0; i-- {
		b[i] = '0' + byte(num%10)
		num /= 10
	}
	return string(b[:])
}

// Segments tells the numbers of all segments.
func Segments(f *file.System) []int {
	var l []int
	// Names of one length, in the order of their bytes: the numbers rise.
	for _, name := range f.Names() {
		if num, ok := number(name); ok {
			l = append(l, num)
		}
	}
	return l
}

// number tells the number of a segment of this name, if it is one.
func number(name string) (int, bool) {
	if len(name) != 1+digits || name[0] != letter {
		return 0, false
	}
	num := 0
	for i := 1; i < len(name); i++ {
		if name[i] < '0' || name[i] > '9' {
			return 0, false
		}
		num = num*10 + int(name[i]-'0')
	}
	return num, true
}

// modulo is from 0 on, below 0 too.
func modulo(num int) int { return (num%numbers + numbers) % numbers }
