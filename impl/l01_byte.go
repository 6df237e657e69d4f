package impl

import (
	"bytes"
	"slices"
	"strconv"
)

const (
	maxNumber = 999999
	maxBytes  = 8
	hexSigns  = "0123456789abcdef"
)

func Digits(n int) string { return strconv.Itoa(n) }

func Number(s string) (int, bool) {
	n := 0
	for _, r := range s {
		if r < '0' || r > '9' {
			return 0, false
		}
		n = n*10 + int(r-'0')
		// Asked at each sign, lest a long text wrap round to a number that would be accepted.
		if n > maxNumber {
			return 0, false
		}
	}
	// The empty text, and zeros ahead, come to a number too, but are not how it is told.
	if Digits(n) != s {
		return 0, false
	}
	return n, true
}

func Hex(b []byte) string {
	signs := make([]byte, 0, 2*len(b))
	for _, x := range b {
		signs = append(signs, hexSigns[x>>4], hexSigns[x&15])
	}
	return string(signs)
}

func Unhex(s string) ([]byte, bool) {
	if len(s)%2 != 0 {
		return nil, false
	}
	b := make([]byte, 0, len(s)/2)
	high := byte(0)
	// A rune that is accepted has one byte, so its place tells which half it is.
	for i, r := range s {
		half, ok := hexHalf(r)
		if !ok {
			return nil, false
		}
		if i%2 == 0 {
			high = half
		} else {
			b = append(b, high<<4|half)
		}
	}
	return b, true
}

// hexHalf knows the small letters alone: with great ones, two texts would mean the same bytes.
func hexHalf(r rune) (byte, bool) {
	switch {
	case r >= '0' && r <= '9':
		return byte(r - '0'), true
	case r >= 'a' && r <= 'f':
		return byte(r-'a') + 10, true
	}
	return 0, false
}

func Same(a []byte, b []byte) bool { return bytes.Equal(a, b) }

func Xor(a []byte, b []byte) []byte {
	both := make([]byte, min(len(a), len(b)))
	for i := range both {
		both[i] = a[i] ^ b[i]
	}
	return both
}

func Little(n int, many int) []byte {
	if n < 0 || many < 1 || many > maxBytes {
		return nil
	}
	b := make([]byte, many)
	for i := range b {
		b[i] = byte(n >> (8 * i))
	}
	return b
}

func Great(n int, many int) []byte {
	b := Little(n, many)
	slices.Reverse(b)
	return b
}

// greatNumber wants fewer bytes than an int has, lest a number come out below 0.
func greatNumber(b []byte) int {
	n := 0
	for _, x := range b {
		n = n<<8 | int(x)
	}
	return n
}

// Split goes by bytes, not by runes: by may be a byte inside of a rune.
func Split(s string, by byte) []string {
	var parts []string
	for _, part := range bytes.Split([]byte(s), []byte{by}) {
		parts = append(parts, string(part))
	}
	return parts
}
