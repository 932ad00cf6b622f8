// Package impl: numbers over time, kept, asked, made less.
package impl

import (
	"iter"
	"strings"
)

// BitMax is how many bits a piece has at most.
const BitMax = 6000

const (
	byteWide = 8
	wideMax  = 32
)

// Zig takes numbers this far from 0, so that what it makes fits in 31 bits.
const zigMax = 1073741823

const (
	crcAll  = 4294967295
	crcTurn = 3988292384
)

const hexFigures = "0123456789abcdef"

// Bit is a number in so many bits.
type Bit struct {
	Num  int
	Wide int
}

// bitWriter holds a bit in each element: where a byte ends matters only when the text is made.
type bitWriter []byte

func (w *bitWriter) put(num int, wide int) {
	for i := wide - 1; i >= 0; i-- {
		*w = append(*w, byte(num>>i&1))
	}
}

func (w bitWriter) text() string {
	out := make([]byte, (len(w)+byteWide-1)/byteWide)
	for i, bit := range w {
		out[i/byteWide] |= bit << (byteWide - 1 - i%byteWide)
	}
	return string(out)
}

func wideOk(wide int) bool {
	return wide >= 1 && wide <= wideMax
}

func bitOk(b Bit) bool {
	return wideOk(b.Wide) && b.Num >= 0 && b.Num < 1<<b.Wide
}

// BitsPut is numbers in bits, one behind the other, as bytes.
func BitsPut(list []Bit) string {
	var w bitWriter
	for _, b := range list {
		if !bitOk(b) || len(w)+b.Wide > BitMax {
			return ""
		}
		w.put(b.Num, b.Wide)
	}
	return w.text()
}

// bitsFrom tells so many bits of a text, which must have them.
func bitsFrom(text string, at int, wide int) iter.Seq[int] {
	return func(yield func(int) bool) {
		for i := at; i < at+wide; i++ {
			bit := text[i/byteWide] >> (byteWide - 1 - i%byteWide) & 1
			if !yield(int(bit)) {
				return
			}
		}
	}
}

// BitsGet is a number in so many bits, from a bit on.
func BitsGet(text string, at int, wide int) (int, bool) {
	if !wideOk(wide) || len(text) > BitMax/byteWide+1 {
		return 0, false
	}
	// Not at+wide: that may wrap round.
	if at < 0 || at > len(text)*byteWide-wide {
		return 0, false
	}
	num := 0
	for bit := range bitsFrom(text, at, wide) {
		num = num*2 + bit
	}
	return num, true
}

// Zig is a number that is not below 0 for one that may be.
func Zig(n int) int {
	if n < -zigMax || n > zigMax {
		return 0
	}
	if n < 0 {
		return -2*n - 1
	}
	return 2 * n
}

// Zag is the number that Zig made it of.
func Zag(n int) int {
	if n < 0 || n > 2*zigMax {
		return 0
	}
	if n%2 == 1 {
		return -(n + 1) / 2
	}
	return n / 2
}

// Crc32 is the sum of a text.
func Crc32(text string) int {
	sum := uint32(crcAll)
	for i := range len(text) {
		sum ^= uint32(text[i])
		for range byteWide {
			odd := sum&1 == 1
			sum /= 2
			if odd {
				sum ^= crcTurn
			}
		}
	}
	return int(sum ^ crcAll)
}

// Hex is bytes in figures.
func Hex(text string) string {
	out := make([]byte, 0, 2*len(text))
	for i := range len(text) {
		out = append(out, hexFigures[text[i]/16], hexFigures[text[i]%16])
	}
	return string(out)
}

// HexGet is bytes of figures.
func HexGet(text string) (string, bool) {
	if len(text)%2 != 0 {
		return "", false
	}
	out := make([]byte, 0, len(text)/2)
	for i := 0; i < len(text); i += 2 {
		high := strings.IndexByte(hexFigures, text[i])
		low := strings.IndexByte(hexFigures, text[i+1])
		if high < 0 || low < 0 {
			return "", false
		}
		out = append(out, byte(high*16+low))
	}
	return string(out), true
}
