// Package hexa is layer 1: see shared/doc/01-hexa.md.
package hexa

import (
	"strconv"

	"catchpit/api"
)

// Digit tells the value of a hexadecimal digit, or -1 of any other byte.
func Digit(c byte) int {
	switch {
	case '0' <= c && c <= '9':
		return int(c - '0')
	case 'a' <= c && c <= 'f':
		return int(c-'a') + 10
	case 'A' <= c && c <= 'F':
		return int(c-'A') + 10
	}
	return -1
}

// Put tells the shortest text of n, in small letters.
func Put(n uint64) string { return strconv.FormatUint(n, 16) }

// Parse tells the number that a size's text says.
func Parse(s string) (uint64, api.Errno) {
	// The form is asked of the whole text ahead of the size, since a wrong byte behind a size that is too great is still ErrForm.
	if s == "" || Digits(s) < len(s) {
		return 0, api.ErrForm
	}
	n, e := uint64(0), api.OK
digits:
	for i := range len(s) {
		n, e = More(n, s[i])
		switch e {
		case api.OK:
			continue
		default:
			break digits
		}
	}
	return n, e
}

// More tells the number whose text is that of n and the digit c behind it.
func More(n uint64, c byte) (uint64, api.Errno) {
	d := Digit(c)
	if d < 0 {
		return 0, api.ErrForm
	}
	// MaxSize is all ones, so that n alone decides, whatever the digit is; asked ahead of the product, which could go round.
	if n > api.MaxSize/16 {
		return 0, api.ErrBig
	}
	return n*16 + uint64(d), api.OK
}

// Digits tells how many digits s begins with.
func Digits(s string) int {
	count := 0
digits:
	for i := range len(s) {
		switch Digit(s[i]) {
		case -1:
			break digits
		default:
			count++
		}
	}
	return count
}
