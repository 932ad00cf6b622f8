package tests

import (
	"encoding/hex"
	"hash/crc32"
	"strings"
	"testing"

	"loop.example/almanack/impl"
)

func someBits(d *dice) []impl.Bit {
	var list []impl.Bit
	for range d.below(60) {
		wide := 1 + d.below(32)
		num := d.below(1<<16)<<16 | d.below(1<<16)
		list = append(list, impl.Bit{Num: num >> (32 - wide), Wide: wide})
	}
	return list
}

// figuresOf is what BitsPut must write, figure by figure.
func figuresOf(list []impl.Bit) string {
	var out strings.Builder
	for _, b := range list {
		out.WriteString(binary(b.Num, b.Wide))
	}
	return out.String()
}

func checkReadBack(t *testing.T, list []impl.Bit) {
	t.Helper()
	text := impl.BitsPut(list)
	want := figuresOf(list)
	if text != packed(want) {
		t.Fatalf("BitsPut(%v) is %s, not %s", list, figures(text), want)
	}
	if len(text) != (len(want)+7)/8 {
		t.Fatalf("%d bits take %d bytes", len(want), len(text))
	}
	at := 0
	for i, b := range list {
		num, ok := impl.BitsGet(text, at, b.Wide)
		if !ok || num != b.Num {
			t.Fatalf("number %d of %v is read as %d, %v", i, list, num, ok)
		}
		at += b.Wide
	}
}

func TestP01NumbersInBitsAreReadBack(t *testing.T) {
	d := dice(1)
	for range 300 {
		checkReadBack(t, someBits(&d))
	}
	for wide := 1; wide <= 32; wide++ {
		top := 1<<wide - 1
		for _, num := range []int{0, 1, top / 2, top - 1, top} {
			checkReadBack(t, []impl.Bit{{Num: num, Wide: wide}})
			checkReadBack(t, []impl.Bit{{Num: 1, Wide: 1}, {Num: num, Wide: wide}, {Num: 0, Wide: 1}, {Num: num, Wide: wide}})
		}
	}
}

func TestP01BytesThatAreNeeded(t *testing.T) {
	for n := 1; n <= 40; n++ {
		list := make([]impl.Bit, n)
		for i := range list {
			list[i] = impl.Bit{Num: 1, Wide: 1}
		}
		checkReadBack(t, list)
	}
	if impl.BitsPut(nil) != "" || impl.BitsPut([]impl.Bit{}) != "" {
		t.Error("no numbers are not the empty text")
	}
	full := impl.BitsPut([]impl.Bit{{Num: 0xff, Wide: 8}})
	over := impl.BitsPut([]impl.Bit{{Num: 0xff, Wide: 8}, {Num: 0, Wide: 1}})
	if full != "\xff" || over != "\xff\x00" {
		t.Errorf("%q %q", full, over)
	}
}

func TestP01WrongNumbers(t *testing.T) {
	good := impl.Bit{Num: 1, Wide: 1}
	wrong := []impl.Bit{
		{Num: 0, Wide: 0}, {Num: 0, Wide: 33}, {Num: 0, Wide: -1}, {Num: 0, Wide: 64}, {Num: 1, Wide: 0},
		{Num: -1, Wide: 1}, {Num: -1, Wide: 32}, {Num: 1 << 32, Wide: 32}, {Num: 2, Wide: 1}, {Num: 128, Wide: 7},
	}
	for _, n := range farNumbers {
		wrong = append(wrong, impl.Bit{Num: 0, Wide: n})
		if n < 0 || n > 1<<32-1 {
			wrong = append(wrong, impl.Bit{Num: n, Wide: 32})
		}
	}
	for _, b := range wrong {
		for _, list := range [][]impl.Bit{{b}, {good, b}, {b, good}, {good, b, good}} {
			if text := impl.BitsPut(list); text != "" {
				t.Errorf("BitsPut(%v) is %q", list, text)
			}
		}
	}
}

func manyBits(total int) []impl.Bit {
	var list []impl.Bit
	for ; total > 32; total -= 32 {
		list = append(list, impl.Bit{Num: 1<<32 - 1, Wide: 32})
	}
	return append(list, impl.Bit{Num: 1<<total - 1, Wide: total})
}

func TestP01BitMax(t *testing.T) {
	checkReadBack(t, manyBits(impl.BitMax))
	if text := impl.BitsPut(manyBits(impl.BitMax)); len(text) != 750 {
		t.Errorf("BitMax bits take %d bytes", len(text))
	}
	checkReadBack(t, manyBits(impl.BitMax-1))
	for _, more := range []int{1, 2, 7, 8, 9, 31, 32, 33, 6000} {
		if text := impl.BitsPut(manyBits(impl.BitMax + more)); text != "" {
			t.Errorf("%d bits more than BitMax are put in %d bytes", more, len(text))
		}
	}
	// What comes behind the bits that are too many takes nothing back.
	if impl.BitsPut(append(manyBits(impl.BitMax+1), impl.Bit{Num: 1, Wide: 1})) != "" {
		t.Error("too many bits, and one more")
	}
	if impl.BitsPut(make([]impl.Bit, 10000)) != "" {
		t.Error("many numbers without bits")
	}
}

func TestP02HigherAndLowerPart(t *testing.T) {
	d := dice(2)
	for range 200 {
		text := d.text(1 + d.below(12))
		all := figures(text)
		for range 50 {
			at, wide := d.below(8*len(text)), 2+d.below(31)
			num, ok := impl.BitsGet(text, at, wide)
			if ok != (at+wide <= len(all)) {
				t.Fatalf("BitsGet(%q, %d, %d) is %v", text, at, wide, ok)
			}
			if !ok {
				continue
			}
			if binary(num, wide) != all[at:at+wide] {
				t.Fatalf("BitsGet(%q, %d, %d) is %d", text, at, wide, num)
			}
			part := 1 + d.below(wide-1)
			high, okHigh := impl.BitsGet(text, at, part)
			low, okLow := impl.BitsGet(text, at+part, wide-part)
			if !okHigh || !okLow || num != high<<(wide-part)+low {
				t.Fatalf("BitsGet(%q, %d, %d) is %d, its parts %d and %d", text, at, wide, num, high, low)
			}
		}
	}
}

func noBits(t *testing.T, text string, at, wide int) {
	t.Helper()
	if num, ok := impl.BitsGet(text, at, wide); num != 0 || ok {
		t.Errorf("BitsGet of %d bytes at %d, %d wide, is %d, %v", len(text), at, wide, num, ok)
	}
}

func TestP02BitsThatAreNotThere(t *testing.T) {
	text := strings.Repeat("\xff", 5)
	for wide := 1; wide <= 32; wide++ {
		last := 8*len(text) - wide
		if num, ok := impl.BitsGet(text, last, wide); !ok || num != 1<<wide-1 {
			t.Errorf("the last %d bits are %d, %v", wide, num, ok)
		}
		noBits(t, text, last+1, wide)
		noBits(t, text, 8*len(text), wide)
		noBits(t, text, -1, wide)
		noBits(t, "", 0, wide)
		for _, at := range farNumbers {
			noBits(t, text, at, wide)
			noBits(t, text, at-wide, wide)
		}
	}
	for _, wide := range append([]int{-64, -1, 0, 33, 34, 40, 64}, farNumbers...) {
		noBits(t, text, 0, wide)
		noBits(t, text, 8, wide)
		noBits(t, text, -1, wide)
	}
}

func TestP02TextThatIsTooLong(t *testing.T) {
	text := strings.Repeat("\xff", impl.BitMax/8+1)
	for _, at := range []int{0, 5000, 8*len(text) - 32} {
		if num, ok := impl.BitsGet(text, at, 32); !ok || num != 1<<32-1 {
			t.Errorf("at %d of %d bytes: %d, %v", at, len(text), num, ok)
		}
	}
	noBits(t, text+"\xff", 0, 1)
	noBits(t, text+"\xff", 8*len(text), 8)
	noBits(t, strings.Repeat(text, 9), 0, 32)
}

func TestP03ZigAndZag(t *testing.T) {
	const most = 1073741823
	for n, want := range map[int]int{0: 0, -1: 1, 1: 2, -2: 3, 2: 4, -3: 5, most: 2147483646, -most: 2147483645, most - 1: 2147483644} {
		if impl.Zig(n) != want || impl.Zag(want) != n {
			t.Errorf("Zig(%d) is %d, Zag(%d) is %d", n, impl.Zig(n), want, impl.Zag(want))
		}
	}
	for n := -3000; n <= 3000; n++ {
		for _, m := range []int{n, n * 357913} {
			if z := impl.Zig(m); z < 0 || z > 2147483646 || impl.Zag(z) != m {
				t.Fatalf("Zig(%d) is %d, Zag of it %d", m, z, impl.Zag(z))
			}
		}
	}
	for n := range 3000 {
		for _, m := range []int{n, n * 715827, 2147483646 - n} {
			if z := impl.Zag(m); z < -most || z > most || impl.Zig(z) != m {
				t.Fatalf("Zag(%d) is %d, Zig of it %d", m, z, impl.Zig(z))
			}
		}
	}
}

func TestP03OutOfLimits(t *testing.T) {
	for _, n := range append([]int{1073741824, -1073741824}, farNumbers...) {
		if impl.Zig(n) != 0 {
			t.Errorf("Zig(%d) is %d", n, impl.Zig(n))
		}
	}
	for _, n := range append([]int{-1, -2, -2147483645, 2147483647, 2147483648}, farNumbers...) {
		if impl.Zag(n) != 0 {
			t.Errorf("Zag(%d) is %d", n, impl.Zag(n))
		}
	}
}

func TestP04TheSumOfAText(t *testing.T) {
	for text, want := range map[string]int{"": 0, "a": 3904355907, "123456789": 3421780262, "\x00": 3523407757, "\xff": 4278190080} {
		if impl.Crc32(text) != want {
			t.Errorf("Crc32(%q) is %d", text, impl.Crc32(text))
		}
	}
	d := dice(4)
	for size := range 200 {
		text := d.text(size)
		if want := int(crc32.ChecksumIEEE([]byte(text))); impl.Crc32(text) != want {
			t.Fatalf("Crc32(%q) is %d, not %d", text, impl.Crc32(text), want)
		}
	}
	long := strings.Repeat("numbers over time ", 10000)
	if impl.Crc32(long) != int(crc32.ChecksumIEEE([]byte(long))) {
		t.Error("a long text")
	}
}

func TestP04OneByteTurned(t *testing.T) {
	d := dice(44)
	for size := 1; size <= 12; size++ {
		text := d.text(size)
		sum := impl.Crc32(text)
		for i := range size {
			for by := 1; by < 256; by++ {
				turned := text[:i] + string([]byte{text[i] ^ byte(by)}) + text[i+1:]
				if impl.Crc32(turned) == sum {
					t.Fatalf("%q and %q have one sum", text, turned)
				}
			}
		}
	}
}

func TestP05BytesInFigures(t *testing.T) {
	d := dice(5)
	texts := []string{"", "\x00", "\xff", "\x09\x90\xa0\x0a\xf0\x0f", "almanack"}
	for b := range 256 {
		texts = append(texts, string([]byte{byte(b)}))
	}
	for size := range 100 {
		texts = append(texts, d.text(size))
	}
	for _, text := range texts {
		figures := impl.Hex(text)
		if figures != hex.EncodeToString([]byte(text)) {
			t.Errorf("Hex(%q) is %q", text, figures)
		}
		if back, ok := impl.HexGet(figures); !ok || back != text {
			t.Errorf("HexGet(%q) is %q, %v", figures, back, ok)
		}
	}
}

func TestP05FiguresThatAreNone(t *testing.T) {
	for a := range 256 {
		for b := range 256 {
			text := string([]byte{byte(a), byte(b)})
			good := strings.Contains("0123456789abcdef", text[:1]) && strings.Contains("0123456789abcdef", text[1:])
			back, ok := impl.HexGet(text)
			if ok != good || ok && impl.Hex(back) != text || !ok && back != "" {
				t.Fatalf("HexGet(%q) is %q, %v", text, back, ok)
			}
		}
	}
	for _, text := range []string{"0", "f", "012", "0A", "00FF", "0x", "00 ", " 00", "00\n", "g0", "0g", "00/0", "00:0", "00`0", "000g", "0000g", "é", "0é0"} {
		if back, ok := impl.HexGet(text); ok || back != "" {
			t.Errorf("HexGet(%q) is %q, %v", text, back, ok)
		}
	}
}

func TestBitsLeaveTheirArguments(t *testing.T) {
	mark := impl.Bit{Num: 77, Wide: 9}
	good := []impl.Bit{{Num: 5, Wide: 3}, {Num: 1, Wide: 7}, {Num: 255, Wide: 8}}
	for _, list := range [][]impl.Bit{good, good[:1], {{Num: 1, Wide: 1}, {Num: 2, Wide: 1}}, manyBits(6001), nil} {
		g := guard(list, mark)
		text := impl.BitsPut(g.list)
		g.check(t, "BitsPut")
		kept := strings.Clone(text)
		spoil(g.list, mark)
		if text != kept {
			t.Error("what BitsPut answers changes with its argument")
		}
	}
	text := strings.Clone("0123456789abcdef")
	back, _ := impl.HexGet(text)
	if sharesText(impl.Hex(text), text) || sharesText(back, text) {
		t.Error("figures share memory with their argument")
	}
}
