// Package class has sets of bytes.
package class

import (
	"math/bits"
	"strings"

	"winnowfan/api"
)

const (
	// Bare, these bytes mean something else in a pattern's text.
	escaped = `\.[]()|*+?^$-`
	digits  = "0123456789abcdef"
	newLine = "\n"
	// Places of bytes are int: the one behind the last byte does not fit into a byte.
	bytesInAll = 256
)

// Of is the class of the bytes of a text.
func Of(text string) api.Class {
	var c api.Class
	for i := range len(text) {
		c = with(c, text[i])
	}
	return c
}

// Range is the class of the bytes from low to high, both included; ErrRange: high is below low.
func Range(low, high byte) (api.Class, error) {
	if high < low {
		return api.Class{}, api.ErrRange
	}
	var c api.Class
	for b := int(low); b <= int(high); b++ {
		c = with(c, byte(b))
	}
	return c, nil
}

// Has tells whether a byte is in a class.
func Has(c api.Class, b byte) bool {
	return c[b/64]>>(b%64)&1 == 1
}

// Not is the class of all bytes that c does not have.
func Not(c api.Class) api.Class {
	return join(c, c, func(x, _ uint64) uint64 { return ^x })
}

// Both is the class of the bytes that a and b have.
func Both(a, b api.Class) api.Class {
	return join(a, b, func(x, y uint64) uint64 { return x & y })
}

// Either is the class of the bytes that a or b has, or both have.
func Either(a, b api.Class) api.Class {
	return join(a, b, func(x, y uint64) uint64 { return x | y })
}

// Many is how many bytes a class has.
func Many(c api.Class) int {
	n := 0
	for _, word := range c {
		n += bits.OnesCount64(word)
	}
	return n
}

// Text is a class as it stands in a pattern's text.
func Text(c api.Class) string {
	if c == Not(Of(newLine)) {
		return "."
	}
	if Many(c) == 1 {
		return runs(c) // its only run is its only byte
	}
	return "[" + runs(c) + "]"
}

func with(c api.Class, b byte) api.Class {
	c[b/64] |= 1 << (b % 64)
	return c
}

func join(a, b api.Class, by func(x, y uint64) uint64) api.Class {
	var c api.Class
	for i := range c {
		c[i] = by(a[i], b[i])
	}
	return c
}

func runs(c api.Class) string {
	var out strings.Builder
	for from := 0; from < bytesInAll; {
		end := runEnd(c, from)
		if end > from {
			out.WriteString(runText(from, end-1))
		}
		from = end + 1 // the byte at end is in no run
	}
	return out.String()
}

// runEnd is the first place from a byte on whose byte c does not have.
func runEnd(c api.Class, from int) int {
	for from < bytesInAll && Has(c, byte(from)) {
		from++
	}
	return from
}

func runText(first, last int) string {
	switch last - first {
	case 0:
		return byteText(byte(first))
	case 1:
		return byteText(byte(first)) + byteText(byte(last))
	}
	return byteText(byte(first)) + "-" + byteText(byte(last))
}

func byteText(b byte) string {
	if b < 32 || b > 126 {
		return `\x` + digits[b/16:b/16+1] + digits[b%16:b%16+1]
	}
	if strings.IndexByte(escaped, b) >= 0 {
		return `\` + string(rune(b))
	}
	return string(rune(b))
}
