package mani

import "cornucopia/wal"

// The name of a file of edits is a letter and its number's digits.
const (
	letter = "m"
	digits = 8
)

// Name tells the name of a number.
func Name(num int) string { return letter + wal.Name(num)[1:] }

// number tells the number whose name this is, if it is one.
func number(name string) (int, bool) {
	if len(name) != len(letter)+digits || name[:len(letter)] != letter {
		return 0, false
	}
	num := 0
	for i := len(letter); i < len(name); i++ {
		if name[i] < '0' || name[i] > '9' {
			return 0, false
		}
		num = num*10 + int(name[i]-'0')
	}
	return num, true
}
