package tests

import (
	"fmt"
	"hash/crc32"
	"math"
	"slices"
	"strings"
	"testing"

	"loop.example/almanack/impl"
)

type blocks = []impl.Block

func sameBlock(a, b impl.Block) bool {
	return a.Low == b.Low && a.High == b.High && sameRows(a.Rows, b.Rows)
}

// block makes one of one row.
func block(low, high int, times ...int) impl.Block {
	return impl.Block{Low: low, High: high, Rows: rows{row("{a=x}", times...)}}
}

// summed is a text with its sum, by the library's own.
func summed(text string) string {
	return fmt.Sprintf("%ssum %d\n", text, crc32.ChecksumIEEE([]byte(text)))
}

// blockText is what BlockPut must write.
func blockText(b impl.Block) string {
	return summed(fmt.Sprintf("block %d %d\n%s", b.Low, b.High, linesOf(b.Rows, impl.PieceMax)))
}

// ranges tells all that a block may have.
func ranges() [][2]int {
	var out [][2]int
	for _, wide := range []int{100, 300, 900} {
		for low := 0; low <= 9999; low += wide {
			out = append(out, [2]int{low, low + wide})
		}
	}
	return out
}

// someBlock makes one of some bases, with few labels and numbers.
func someBlock(d *dice, low, wide, numbers int) impl.Block {
	b := impl.Block{Low: low, High: low + wide}
	for b.Rows == nil {
		b.Rows = someRows(d, 4, 8, numbers)
	}
	for _, row := range b.Rows {
		by := 1 + d.below((min(b.High, 10000)-low)/8)
		for i := range row.List {
			row.List[i].T = low + row.List[i].T*by
		}
	}
	return b
}

// someRange is one of those near the beginning, or near the end.
func someRange(d *dice) (int, int) {
	wide := []int{100, 300, 900}[d.below(3)]
	if d.below(3) == 0 {
		return 9900 / wide * wide, wide
	}
	return d.below(3) * wide, wide
}

func goodBlocks() map[string]impl.Block {
	return map[string]impl.Block{
		"a base":                      block(0, 100, 5),
		"a base, from another one on": block(700, 800, 750),
		"three":                       block(0, 300, 250),
		"three, from 300 on":          block(300, 600, 300, 599),
		"nine":                        block(0, 900, 0, 899),
		"nine, from 900 on":           block(900, 1800, 1000),
		"both ends":                   block(0, 100, 0, 99),
		"at Low":                      block(500, 600, 500),
		"at High - 1":                 block(500, 600, 599),
		"the last base":               block(9900, 10000, 9999),
		"three that go past the end":  block(9900, 10200, 9900, 9999),
		"nine that go past the end":   block(9900, 10800, 9999),
		"ten rows":                    {Low: 0, High: 100, Rows: manyRows(impl.RowMax, 100)},
		"900 samples":                 {Low: 0, High: 900, Rows: manyRows(2, 900)},
	}
}

func wrongBlocks() map[string]impl.Block {
	out := map[string]impl.Block{
		"nothing":                  {},
		"no rows":                  {Low: 0, High: 100},
		"no rows, but a list":      {Low: 0, High: 100, Rows: rows{}},
		"Low below 0":              block(-100, 0),
		"Low below 0, of three":    block(-300, 0),
		"Low below 0, with rows":   block(-100, 0, 5),
		"Low past the end":         block(10000, 10100, 9999),
		"Low past the end, nine":   block(10800, 11700, 9999),
		"Low at the last time":     block(9999, 10099, 9999),
		"no width":                 block(100, 100, 100),
		"a width below 0":          block(100, 0, 50),
		"two bases":                block(0, 200, 5),
		"six bases":                block(0, 600, 5),
		"27 bases":                 block(0, 2700, 5),
		"ten bases":                block(0, 1000, 5),
		"one more":                 block(0, 101, 5),
		"one less":                 block(0, 99, 5),
		"Low beside a base":        block(1, 101, 5),
		"Low half a base on":       block(50, 150, 60),
		"three, a base on":         block(100, 400, 150),
		"three, two bases on":      block(200, 500, 250),
		"nine, three bases on":     block(300, 1200, 450),
		"nine, a base on":          block(100, 1000, 450),
		"nine, a base less":        block(800, 1700, 850),
		"a sample at High":         block(500, 600, 550, 600),
		"a sample ahead of Low":    block(500, 600, 499, 550),
		"a sample far behind":      block(500, 600, 5000),
		"of 300 one at High":       block(300, 600, 600),
		"of 300 one ahead":         block(300, 600, 299),
		"of 900 one at High":       block(900, 1800, 900, 1800),
		"in the last row, at High": {Low: 0, High: 100, Rows: rows{row("{a=x}", 5), row("{b=x}", 5, 100)}},
		"in the last row, ahead":   {Low: 100, High: 200, Rows: rows{row("{a=x}", 150), row("{b=x}", 99, 150)}},
	}
	for what, list := range wrongRows() {
		out["rows, "+what] = impl.Block{Low: 0, High: 900, Rows: list}
	}
	for _, n := range farNumbers {
		out[fmt.Sprint("Low ", n)] = block(n, 100, 5)
		out[fmt.Sprint("High ", n)] = block(0, n, 5)
		out[fmt.Sprint("both ", n)] = block(n, n+100, 5)
		out[fmt.Sprint("both in bases ", n)] = block(n/900*900, n/900*900+900, 5)
	}
	return out
}

func TestBlockOk(t *testing.T) {
	for what, b := range goodBlocks() {
		if !impl.BlockOk(b) {
			t.Errorf("%s: BlockOk is false", what)
		}
	}
	for what, b := range wrongBlocks() {
		if impl.BlockOk(b) {
			t.Errorf("%s: BlockOk is true", what)
		}
	}
	all := ranges()
	for _, low := range []int{-100, 0, 1, 99, 100, 200, 300, 301, 600, 899, 900, 901, 1200, 1800, 9800, 9900, 9999, 10000} {
		for wide := -100; wide <= 3000; wide++ {
			want := slices.Contains(all, [2]int{low, low + wide})
			if got := impl.BlockOk(block(low, low+wide, min(max(low, 0), 9999))); got != want {
				t.Errorf("from %d to %d: BlockOk is %v", low, low+wide, got)
			}
		}
	}
}

func checkBlockText(t *testing.T, b impl.Block) string {
	t.Helper()
	text := impl.BlockPut(b)
	if want := blockText(b); text != want {
		t.Fatalf("BlockPut(%v) is\n%s, not\n%s", b, text, want)
	}
	if back, ok := impl.BlockGet(text); !ok || !sameBlock(back, b) {
		t.Fatalf("BlockGet(%q) is %v, %v", text, back, ok)
	}
	return text
}

func TestP33BlocksAreReadBack(t *testing.T) {
	d := dice(33)
	for range 400 {
		low, wide := someRange(&d)
		checkBlockText(t, someBlock(&d, low, wide, 1000))
	}
	for _, b := range goodBlocks() {
		checkBlockText(t, b)
	}
	for _, r := range ranges() {
		checkBlockText(t, block(r[0], r[1], r[0]))
	}
	for what, b := range wrongBlocks() {
		if got := impl.BlockPut(b); got != "" {
			t.Errorf("%s: BlockPut is %q", what, got)
		}
	}
}

func noBlock(t *testing.T, what string, text string) {
	t.Helper()
	if got, ok := impl.BlockGet(text); ok || !sameBlock(got, impl.Block{}) {
		t.Fatalf("%s: BlockGet(%q) is %v, %v", what, text, got, ok)
	}
}

func TestP33TextsThatAreNone(t *testing.T) {
	lines := linesOf(rows{row("{a=x}", 5, 50)}, 60)
	good := "block 0 100\n" + lines
	if got, ok := impl.BlockGet(summed(good)); !ok || !sameBlock(got, block(0, 100, 5, 50)) {
		t.Fatalf("%q is not read", summed(good))
	}
	wrong := map[string]string{
		"nothing":                     "",
		"a newline":                   "\n",
		"no first line":               lines,
		"an empty first line":         "\n" + lines,
		"the first line alone":        "block 0 100\n",
		"the first line, no newline":  "block 0 100",
		"no newline behind it":        "block 0 100" + lines,
		"no newline at the end":       strings.TrimSuffix(good, "\n"),
		"a newline too many":          good + "\n",
		"a newline between":           "block 0 100\n\n" + lines,
		"a newline ahead":             "\n" + good,
		"the first line twice":        "block 0 100\n" + good,
		"the first line behind":       lines + "block 0 100\n",
		"another word":                "blocks 0 100\n" + lines,
		"a great letter":              "Block 0 100\n" + lines,
		"no word":                     "0 100\n" + lines,
		"a blank ahead":               " block 0 100\n" + lines,
		"a blank behind":              "block 0 100 \n" + lines,
		"a blank too many":            "block  0 100\n" + lines,
		"a blank too many between":    "block 0  100\n" + lines,
		"a tab":                       "block 0\t100\n" + lines,
		"a return":                    "block 0 100\r\n" + lines,
		"one number":                  "block 100\n" + lines,
		"three numbers":               "block 0 100 100\n" + lines,
		"a nought ahead":              "block 0 0100\n" + lines,
		"two noughts":                 "block 00 100\n" + lines,
		"a sign":                      "block 0 +100\n" + lines,
		"a sign ahead of 0":           "block +0 100\n" + lines,
		"0 below 0":                   "block -0 100\n" + lines,
		"a bar":                       "block 0 1_00\n" + lines,
		"no number":                   "block 0 x\n" + lines,
		"a number that is too long":   "block 0 99999999999999999999\n" + lines,
		"a number that wraps round":   "block 0 18446744073709551716\n" + lines,
		"figures of another kind":     "block 0 0x64\n" + lines,
		"a range that is none":        "block 0 200\n" + lines,
		"a range that begins beside":  "block 50 150\n" + lines,
		"a range with samples beside": "block 100 200\n" + lines,
		"a range below 0":             "block -100 0\n" + lines,
		"rows that are none":          "block 0 100\n{a=x} 00\n",
		"rows twice":                  good + lines,
		"a row too many":              "block 0 900\n" + linesOf(manyRows(11, 1), 60),
		"pieces cut elsewhere":        "block 0 100\n" + linesOf(rows{row("{a=x}", 5, 50)}, 1),
	}
	for what, text := range wrong {
		noBlock(t, what, summed(text))
		noBlock(t, what+", without a sum", text)
	}
}

func TestP33SumsThatAreWrong(t *testing.T) {
	lines := linesOf(rows{row("{a=x}", 5, 50)}, 60)
	good := "block 0 100\n" + lines
	sum := fmt.Sprint(crc32.ChecksumIEEE([]byte(good)))
	wrong := map[string]string{
		"no sum":                 good,
		"no number":              good + "sum \n",
		"no blank":               good + "sum" + sum + "\n",
		"two blanks":             good + "sum  " + sum + "\n",
		"a blank ahead":          good + " sum " + sum + "\n",
		"a blank behind":         good + "sum " + sum + " \n",
		"a newline ahead":        good + "\nsum " + sum + "\n",
		"no newline":             good + "sum " + sum,
		"two newlines":           good + "sum " + sum + "\n\n",
		"a return":               good + "sum " + sum + "\r\n",
		"another word":           good + "Sum " + sum + "\n",
		"a nought ahead":         good + "sum 0" + sum + "\n",
		"a sign":                 good + "sum +" + sum + "\n",
		"one figure more":        good + "sum " + sum + "0\n",
		"one figure less":        good + "sum " + sum[:len(sum)-1] + "\n",
		"the sum of the rows":    good + fmt.Sprintf("sum %d\n", crc32.ChecksumIEEE([]byte(lines))),
		"the sum less a newline": good + fmt.Sprintf("sum %d\n", crc32.ChecksumIEEE([]byte(strings.TrimSuffix(good, "\n")))),
		"the sum below 0":        good + fmt.Sprintf("sum %d\n", int32(crc32.ChecksumIEEE([]byte(good)))-1),
		"another sum":            good + "sum 0\n",
		"the sum twice":          good + "sum " + sum + "\nsum " + sum + "\n",
		"the sum ahead":          "sum " + sum + "\n" + good,
		"something behind":       good + "sum " + sum + "\nx",
		"a row behind":           good + "sum " + sum + "\n" + lines,
		"a sum of the sum":       summed(summed(good)),
		"only a sum":             summed(""),
	}
	for what, text := range wrong {
		noBlock(t, what, text)
	}
	zero := 0
	for at := range 200000 {
		// A sum with fewer figures is told without noughts ahead.
		b := impl.Block{Low: 0, High: 100, Rows: rows{{Labels: labelsOf("a", "x"), List: samples{{T: at % 100, V: at}}}}}
		text := fmt.Sprintf("block 0 100\n{a=x} %s\n", hexOf(b.Rows[0].List))
		if crc32.ChecksumIEEE([]byte(text)) < 1000000 {
			checkBlockText(t, b)
			zero++
		}
	}
	if zero < 10 {
		t.Errorf("%d sums were short", zero)
	}
}

func TestP33WhatIsReadIsPutJustSo(t *testing.T) {
	d := dice(3333)
	read := 0
	for range 15000 {
		low, wide := someRange(&d)
		text := blockText(someBlock(&d, low, wide, 20))
		text = text[:strings.LastIndex(text, "sum ")]
		text = summed(turned(&d, text, "{}=,ab 0123456789abcdef\n"))
		got, ok := impl.BlockGet(text)
		if ok {
			read++
		}
		if ok && (impl.BlockPut(got) != text || blockText(got) != text || !impl.BlockOk(got)) || !ok && !sameBlock(got, impl.Block{}) {
			t.Fatalf("BlockGet(%q) is %v, %v", text, got, ok)
		}
	}
	if read < 1500 || read > 12000 {
		t.Errorf("%d texts were read", read)
	}
}

func TestP34BlocksThatAreSpoilt(t *testing.T) {
	d := dice(34)
	list := blocks{block(0, 100, 5), {Low: 300, High: 600, Rows: rows{row("{a=x}", 300, 400, 599), row("{a=x,b=yy}", 500)}}}
	for range 5 {
		low, wide := someRange(&d)
		list = append(list, someBlock(&d, low, wide, 3))
	}
	for _, b := range list {
		text := checkBlockText(t, b)
		for at := range len(text) {
			for by := 1; by < 256; by++ {
				spoilt := []byte(text)
				spoilt[at] ^= byte(by)
				noBlock(t, fmt.Sprintf("turned at %d", at), string(spoilt))
			}
			noBlock(t, fmt.Sprintf("cut at %d", at), text[:at])
			noBlock(t, fmt.Sprintf("cut up to %d", at), text[at+1:])
			noBlock(t, fmt.Sprintf("without %d", at), text[:at]+text[at+1:])
		}
		noBlock(t, "a byte more", text+"\n")
		noBlock(t, "twice", text+text)
	}
}

// plainCut parts rows by hand, base by base.
func plainCut(list rows, to int) blocks {
	byBase := map[int]plainRows{}
	for _, row := range list {
		for _, x := range row.List {
			low := x.T - x.T%100
			if x.T >= to {
				continue
			}
			if byBase[low] == nil {
				byBase[low] = plainRows{}
			}
			byBase[low].put(labelsText(row.Labels), x.T, x.V)
		}
	}
	var out blocks
	for low := 0; low < 10000; low += 100 {
		if p := byBase[low]; p != nil {
			out = append(out, impl.Block{Low: low, High: low + 100, Rows: p.rows()})
		}
	}
	return out
}

func checkCut(t *testing.T, list rows, to int) blocks {
	t.Helper()
	got := impl.BlockCut(list, to)
	if want := plainCut(list, to); !slices.EqualFunc(got, want, sameBlock) {
		t.Fatalf("BlockCut(%v, %d) is %v, not %v", list, to, got, want)
	}
	var all rows
	for i, b := range got {
		ok := true
		if all, ok = impl.RowsJoin(all, b.Rows); !ok || !impl.BlockOk(b) || b.High-b.Low != impl.Base || i > 0 && got[i-1].High > b.Low {
			t.Fatalf("BlockCut(%v, %d) has %v", list, to, b)
		}
	}
	if asked := impl.RowsAsk(list, nil, 0, to); !sameRows(all, asked) {
		t.Fatalf("BlockCut(%v, %d) is together %v, not %v", list, to, all, asked)
	}
	return got
}

func TestP35RowsArePartedIntoBlocks(t *testing.T) {
	d := dice(35)
	for range 300 {
		list := someRows(&d, impl.RowMax, 12, 5)
		for _, row := range list {
			first, by := d.below(1000), 1+d.below(700)
			for i := range row.List {
				row.List[i].T = first + row.List[i].T*by
			}
		}
		checkCut(t, list, d.below(101)*100)
		checkCut(t, list, impl.TimeMax+1)
	}
	for _, list := range goodRows() {
		for _, to := range []int{0, 100, 500, 1000, 9900, 10000} {
			checkCut(t, list, to)
		}
	}
}

func TestP35EdgesOfTime(t *testing.T) {
	list := rows{row("{a=x}", 0, 99, 100, 199, 300, 9899, 9900, 9999), row("{b=x}", 99, 200)}
	cases := []struct {
		to   int
		want string
	}{
		{0, ""},
		{100, "0-100:{a=x}0,99{b=x}99"},
		{200, "0-100:{a=x}0,99{b=x}99 100-200:{a=x}100,199"},
		{300, "0-100:{a=x}0,99{b=x}99 100-200:{a=x}100,199 200-300:{b=x}200"},
		{400, "0-100:{a=x}0,99{b=x}99 100-200:{a=x}100,199 200-300:{b=x}200 300-400:{a=x}300"},
		{9900, "0-100:{a=x}0,99{b=x}99 100-200:{a=x}100,199 200-300:{b=x}200 300-400:{a=x}300 9800-9900:{a=x}9899"},
		{10000, "0-100:{a=x}0,99{b=x}99 100-200:{a=x}100,199 200-300:{b=x}200 300-400:{a=x}300 9800-9900:{a=x}9899 9900-10000:{a=x}9900,9999"},
	}
	for _, c := range cases {
		var parts []string
		for _, b := range checkCut(t, list, c.to) {
			parts = append(parts, fmt.Sprintf("%d-%d:%s", b.Low, b.High, rowsShort(b.Rows)))
		}
		if got := strings.Join(parts, " "); got != c.want {
			t.Errorf("to %d: %s, not %s", c.to, got, c.want)
		}
	}
}

func TestP35WhatIsNotOk(t *testing.T) {
	list := rows{row("{a=x}", 0, 99, 100, 199)}
	none := []int{-10000, -200, -100, 10100, 10200, 20000}
	for _, n := range farNumbers {
		none = append(none, n, n/100*100)
	}
	for to := -1; to <= 10001; to++ {
		if to%100 != 0 {
			none = append(none, to)
		}
	}
	for _, to := range none {
		if got := impl.BlockCut(list, to); got != nil {
			t.Errorf("to %d: %v", to, got)
		}
	}
	for what, wrong := range wrongRows() {
		for _, to := range []int{100, 10000} {
			if got := impl.BlockCut(wrong, to); got != nil {
				t.Errorf("%s: %v", what, got)
			}
		}
	}
}

// plainJoin puts blocks together by hand.
func plainJoin(list blocks) (impl.Block, bool) {
	p := plainRows{}
	low, high := math.MaxInt, 0
	for _, b := range list {
		low, high = min(low, b.Low), max(high, b.High)
		for _, row := range b.Rows {
			for _, x := range row.List {
				if !p.put(labelsText(row.Labels), x.T, x.V) {
					return impl.Block{}, false
				}
			}
		}
	}
	for _, r := range ranges() {
		if r[0] <= low && high <= r[1] {
			return impl.Block{Low: r[0], High: r[1], Rows: p.rows()}, p.fits()
		}
	}
	return impl.Block{}, false
}

func checkBlockJoin(t *testing.T, list blocks) (impl.Block, bool) {
	t.Helper()
	got, ok := impl.BlockJoin(list)
	want, fine := plainJoin(list)
	if !fine {
		want = impl.Block{}
	}
	if ok != fine || !sameBlock(got, want) {
		t.Fatalf("BlockJoin(%v) is %v, %v, not %v, %v", list, got, ok, want, fine)
	}
	if ok && !impl.BlockOk(got) {
		t.Fatalf("BlockJoin(%v) is %v, which is not ok", list, got)
	}
	return got, ok
}

func TestP36BlocksAreJoined(t *testing.T) {
	d := dice(36)
	joined := 0
	for range 4000 {
		begin, numbers := d.below(12)*900, 1+d.below(2)
		var list blocks
		for range 1 + d.below(5) {
			wide := []int{100, 300, 900}[d.below(3)]
			low := begin + d.below(1+900/wide)*wide
			if low <= impl.TimeMax {
				list = append(list, someBlock(&d, low, wide, numbers))
			}
		}
		if list == nil {
			continue
		}
		got, ok := checkBlockJoin(t, list)
		if ok {
			joined++
		}
		slices.Reverse(list)
		if back, fine := checkBlockJoin(t, list); fine != ok || !sameBlock(back, got) {
			t.Fatalf("the other way round %v is %v, %v, not %v", list, back, fine, got)
		}
	}
	if joined < 1000 || joined > 3500 {
		t.Errorf("%d were joined", joined)
	}
}

func TestP36BlocksAreJoinedAsRowsAre(t *testing.T) {
	d := dice(3636)
	for range 300 {
		list := someRows(&d, impl.RowMax, 12, 5)
		for _, row := range list {
			for i := range row.List {
				row.List[i].T = 900 + row.List[i].T*70
			}
		}
		if len(list) == 0 {
			continue
		}
		all, ok := checkBlockJoin(t, checkCut(t, list, 1800))
		if !ok || !sameRows(all.Rows, list) {
			t.Fatalf("%v are parted, and joined %v, %v", list, all, ok)
		}
	}
}

func TestP36OneBlockAlone(t *testing.T) {
	for what, b := range goodBlocks() {
		if got, ok := checkBlockJoin(t, blocks{b}); !ok || !sameBlock(got, b) {
			t.Errorf("%s: %v, %v", what, got, ok)
		}
		if got, ok := checkBlockJoin(t, blocks{b, b, b}); !ok || !sameBlock(got, b) {
			t.Errorf("%s, three times: %v, %v", what, got, ok)
		}
	}
	for _, r := range ranges() {
		if got, ok := impl.BlockJoin(blocks{block(r[0], r[1], r[0])}); !ok || got.Low != r[0] || got.High != r[1] {
			t.Errorf("of %v the range is %d to %d", r, got.Low, got.High)
		}
	}
}

func TestP36Ranges(t *testing.T) {
	cases := []struct {
		list [][2]int
		want [2]int
	}{
		{[][2]int{{0, 100}, {0, 100}}, [2]int{0, 100}},
		{[][2]int{{0, 100}, {100, 200}}, [2]int{0, 300}},
		{[][2]int{{100, 200}, {0, 100}}, [2]int{0, 300}},
		{[][2]int{{0, 100}, {200, 300}}, [2]int{0, 300}},
		{[][2]int{{100, 200}, {200, 300}}, [2]int{0, 300}},
		{[][2]int{{0, 300}, {100, 200}}, [2]int{0, 300}},
		{[][2]int{{300, 400}, {400, 500}, {500, 600}}, [2]int{300, 600}},
		{[][2]int{{200, 300}, {300, 400}}, [2]int{0, 900}},
		{[][2]int{{0, 100}, {300, 400}}, [2]int{0, 900}},
		{[][2]int{{0, 300}, {300, 400}}, [2]int{0, 900}},
		{[][2]int{{800, 900}, {0, 100}}, [2]int{0, 900}},
		{[][2]int{{0, 900}, {800, 900}}, [2]int{0, 900}},
		{[][2]int{{600, 900}, {0, 900}}, [2]int{0, 900}},
		{[][2]int{{800, 900}, {900, 1000}}, [2]int{}},
		{[][2]int{{0, 900}, {900, 1000}}, [2]int{}},
		{[][2]int{{0, 100}, {9900, 10000}}, [2]int{}},
		{[][2]int{{0, 900}, {900, 1800}}, [2]int{}},
		{[][2]int{{600, 900}, {900, 1200}}, [2]int{}},
		{[][2]int{{900, 1000}, {1700, 1800}}, [2]int{900, 1800}},
		{[][2]int{{900, 1200}, {1200, 1300}}, [2]int{900, 1800}},
		{[][2]int{{9900, 10000}, {9900, 10200}}, [2]int{9900, 10200}},
		{[][2]int{{9900, 10000}, {9900, 10800}}, [2]int{9900, 10800}},
		{[][2]int{{9800, 9900}, {9900, 10000}}, [2]int{}},
		{[][2]int{{9600, 9900}, {9800, 9900}}, [2]int{9600, 9900}},
		{[][2]int{{9000, 9100}, {9800, 9900}}, [2]int{9000, 9900}},
	}
	for _, c := range cases {
		var list blocks
		for _, r := range c.list {
			list = append(list, block(r[0], r[1], r[0]))
		}
		got, ok := checkBlockJoin(t, list)
		if ok != (c.want != [2]int{}) || got.Low != c.want[0] || got.High != c.want[1] {
			t.Errorf("of %v it is %d to %d, %v, not %v", c.list, got.Low, got.High, ok, c.want)
		}
	}
}

func TestP36TooManyAndNotTheSame(t *testing.T) {
	ten := manyRows(11, 3)
	cases := []struct {
		what string
		list blocks
		want bool
	}{
		{"ten rows in two", blocks{{Low: 0, High: 100, Rows: ten[:5]}, {Low: 0, High: 300, Rows: ten[5:10]}}, true},
		{"eleven rows in two", blocks{{Low: 0, High: 100, Rows: ten[:5]}, {Low: 0, High: 100, Rows: ten[5:11]}}, false},
		{"ten rows twice", blocks{{Low: 0, High: 100, Rows: ten[:10]}, {Low: 0, High: 100, Rows: ten[:10]}}, true},
		{"two numbers", blocks{block(0, 100, 5), {Low: 0, High: 300, Rows: rows{{Labels: labelsOf("a", "x"), List: samples{{T: 5, V: 6}}}}}}, false},
		{"two numbers of other labels", blocks{block(0, 100, 5), {Low: 0, High: 300, Rows: rows{{Labels: labelsOf("a", "y"), List: samples{{T: 5, V: 6}}}}}}, true},
		{"the same number", blocks{block(0, 100, 5), block(0, 300, 5)}, true},
		{"two numbers in the first and the last", blocks{block(0, 100, 5), block(100, 200, 150), {Low: 0, High: 300, Rows: rows{{Labels: labelsOf("a", "x"), List: samples{{T: 5, V: 6}}}}}}, false},
		{"900 samples in two", blocks{block(0, 900, upTo(0, 450, 2)...), block(0, 900, upTo(1, 450, 2)...)}, true},
		{"rows between each other", blocks{{Low: 0, High: 100, Rows: rows{ten[0], ten[3], ten[6]}}, {Low: 0, High: 100, Rows: rows{ten[1], ten[4], ten[7]}}, {Low: 0, High: 100, Rows: rows{ten[2], ten[5], ten[8]}}}, true},
		{"beginnings of longer ones", blocks{{Low: 0, High: 100, Rows: rows{row("{a=x,b=x}", 1), row("{aa=x}", 1)}}, {Low: 0, High: 100, Rows: rows{row("{a=x}", 1), row("{a=x,b=x,c=x}", 1), row("{a=xx}", 1)}}}, true},
	}
	for _, c := range cases {
		if _, got := checkBlockJoin(t, c.list); got != c.want {
			t.Errorf("%s: %v", c.what, got)
		}
	}
}

func TestP36BlocksThatAreNotOk(t *testing.T) {
	for _, none := range []blocks{nil, {}} {
		if got, ok := impl.BlockJoin(none); ok || !sameBlock(got, impl.Block{}) {
			t.Errorf("no blocks are %v, %v", got, ok)
		}
	}
	good := block(0, 100, 5)
	for what, wrong := range wrongBlocks() {
		for _, list := range []blocks{{wrong}, {good, wrong}, {wrong, good}, {good, wrong, good}} {
			if got, ok := impl.BlockJoin(list); ok || !sameBlock(got, impl.Block{}) {
				t.Errorf("%s: %v, %v", what, got, ok)
			}
		}
	}
}

func TestBlocksLeaveTheirArguments(t *testing.T) {
	d := dice(7)
	for range 40 {
		low, wide := someRange(&d)
		b := roomy(someBlock(&d, low, wide, 1))
		list := roomy(blocks{someBlock(&d, 900, 100, 1), someBlock(&d, 1200, 300, 1), someBlock(&d, 900, 900, 1)})
		h := hand(b, list)
		impl.BlockOk(b)
		text := impl.BlockPut(b)
		h.check(t, "BlockPut", text)
		got, _ := impl.BlockGet(text)
		hand(text).check(t, "BlockGet", got)
		h.check(t, "BlockCut", impl.BlockCut(b.Rows, 10000))
		h.check(t, "BlockCut of some", impl.BlockCut(list[2].Rows, 1300))
		for _, some := range []blocks{list, list[:1], list[:2], {b}, {b, b}} {
			joined, _ := impl.BlockJoin(some)
			h.check(t, "BlockJoin", joined)
		}
	}
}
