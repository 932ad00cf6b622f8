package tests

import (
	"fmt"
	"math"
	"strings"
	"testing"

	"loop.example/almanack/impl"
)

type samples = []impl.Sample

// steps makes samples of times' distances, all with one number.
func steps(first, value int, by ...int) samples {
	list := samples{{T: first, V: value}}
	for _, b := range by {
		first += b
		list = append(list, impl.Sample{T: first, V: value})
	}
	return list
}

// values makes samples of numbers, a time apart each.
func values(v ...int) samples {
	var list samples
	for i, x := range v {
		list = append(list, impl.Sample{T: i, V: x})
	}
	return list
}

func turnFigures(d int) string {
	switch {
	case d == 0:
		return "0"
	case d >= -64 && d <= 63:
		return "10" + binary(d+64, 7)
	case d >= -512 && d <= 511:
		return "110" + binary(d+512, 10)
	}
	return "111" + binary(d+16384, 15)
}

// changeFigures is how a number's change is written, and the frame behind it.
func changeFigures(x int, lead, wide int) (string, int, int) {
	if x == 0 {
		return "0", lead, wide
	}
	all := binary(x, 31)
	if wide > 0 && !strings.Contains(all[:lead]+all[lead+wide:], "1") {
		return "10" + all[lead:lead+wide], lead, wide
	}
	lead = strings.Index(all, "1")
	wide = strings.LastIndex(all, "1") - lead + 1
	return "11" + binary(lead, 5) + binary(wide-1, 5) + all[lead:lead+wide], lead, wide
}

// pieceFigures is what PiecePut must write, figure by figure, as the document's words say it.
func pieceFigures(list samples) string {
	out := binary(len(list), 6) + binary(list[0].T, 14) + binary(list[0].V, 31)
	lead, wide := 0, 0
	for i := 1; i < len(list); i++ {
		d := list[i].T - list[i-1].T
		if i > 1 {
			d -= list[i-1].T - list[i-2].T
		}
		change, l, w := changeFigures(list[i].V^list[i-1].V, lead, wide)
		out, lead, wide = out+turnFigures(d)+change, l, w
	}
	return out
}

// someSamples makes n samples: steady or wild times, numbers that stay, differ little, or wholly.
func someSamples(d *dice, n int) samples {
	most := 1 + d.below(9999/max(n, 1))
	at, v := d.below(100), d.below(impl.ValueMax)
	var list samples
	for range n {
		list = append(list, impl.Sample{T: at, V: v})
		if d.below(3) == 0 {
			most = 1 + d.below(2*most)
		}
		step := 1 + d.below(max(most, 1))
		if d.below(2) == 0 {
			step = most
		}
		if at += step; at > impl.TimeMax {
			break
		}
		switch d.below(4) {
		case 0:
			v = d.below(impl.ValueMax)
		case 1:
			v ^= 1 << d.below(31)
		case 2:
			v ^= d.below(16) << d.below(28)
		}
	}
	return list
}

func checkPiece(t *testing.T, list samples) string {
	t.Helper()
	text := impl.PiecePut(list)
	want := pieceFigures(list)
	if text != packed(want) {
		t.Fatalf("PiecePut(%v) is\n%s, not\n%s", list, figures(text), want)
	}
	back, ok := impl.PieceGet(text)
	if !ok || !sameSamples(back, list) {
		t.Fatalf("PieceGet of %v is %v, %v", list, back, ok)
	}
	if 8*len(text) > 19+61*len(list) {
		t.Fatalf("%d samples take %d bytes", len(list), len(text))
	}
	return text
}

// noPiece says that a text is read as nothing; only then.
func noPiece(t *testing.T, what string, text string) {
	t.Helper()
	if list, ok := impl.PieceGet(text); ok || list != nil {
		t.Errorf("%s: PieceGet of %s is %v, %v", what, figures(text), list, ok)
	}
}

func TestP06SamplesAreReadBack(t *testing.T) {
	d := dice(6)
	for range 3000 {
		checkPiece(t, someSamples(&d, 1+d.below(impl.PieceMax)))
	}
}

func TestP06EdgesOfSamples(t *testing.T) {
	for _, x := range (samples{{T: 0, V: 0}, {T: impl.TimeMax, V: impl.ValueMax}, {T: 0, V: impl.ValueMax}, {T: impl.TimeMax, V: 0}, {T: 10, V: 5}}) {
		if text := checkPiece(t, samples{x}); len(text) != 7 {
			t.Errorf("one sample takes %d bytes", len(text))
		}
	}
	checkPiece(t, samples{{T: 0, V: 0}, {T: impl.TimeMax, V: impl.ValueMax}})
	checkPiece(t, samples{{T: 0, V: impl.ValueMax}, {T: 1, V: 0}, {T: impl.TimeMax, V: impl.ValueMax}})
	checkPiece(t, samples{{T: 0, V: 7}, {T: 9998, V: 7}, {T: 9999, V: 7}})
	full := steps(0, 3, make([]int, impl.PieceMax-1)...)
	for i := range full {
		full[i] = impl.Sample{T: i * i, V: (i % 2) * impl.ValueMax}
	}
	checkPiece(t, full)
}

func TestP06StepsThatTurn(t *testing.T) {
	forms := map[int]string{
		0: "0", 1: "10 1000001", -1: "10 0111111", -64: "10 0000000", 63: "10 1111111",
		-65: "110 0110111111", 64: "110 1001000000", -512: "110 0000000000", 511: "110 1111111111",
		-513: "111 011110111111111", 512: "111 100001000000000", -900: "111 011110001111100", 8000: "111 101111101000000",
	}
	for d, bits := range forms {
		want := binary(3, 6) + binary(0, 14) + binary(9, 31) + "111" + binary(901+16384, 15) + "0" + bits + "0"
		if got := checkPiece(t, steps(0, 9, 901, 901+d)); got != packed(want) {
			t.Errorf("D of %d: %s, not %s", d, figures(got), want)
		}
	}
	// The second one's step is held against 0.
	for _, step := range []int{1, 63, 64, 511, 512, 9999} {
		checkPiece(t, steps(0, 9, step))
	}
	if got := impl.PiecePut(steps(10, 5, 10)); got != packed(binary(2, 6)+binary(10, 14)+binary(5, 31)+"10 1001010 0") {
		t.Errorf("%s", figures(got))
	}
	// Steps that grow less all the time.
	var less []int
	for step := 59; step > 0; step-- {
		less = append(less, step)
	}
	checkPiece(t, steps(0, 1, less...))
}

func TestP06FramesOfNumbers(t *testing.T) {
	cases := []struct {
		what string
		list samples
		bits string
	}{
		{"a frame, the same, and noughts between", values(0, 6, 6, 0), "11 11100 00001 11, 0, 10 11"},
		{"less than the frame fits in it", values(0, 6, 4), "11 11100 00001 11, 10 01"},
		{"one behind the frame fits not", values(0, 6, 7), "11 11100 00001 11, 11 11110 00000 1"},
		{"one ahead of the frame fits not", values(0, 6, 14), "11 11100 00001 11, 11 11011 00000 1"},
		{"a lesser frame is kept no longer", values(0, 14, 15, 13), "11 11011 00010 111, 11 11110 00000 1, 11 11101 00000 1"},
		{"the widest", values(0, impl.ValueMax, 0, 1), "11 00000 11110 " + strings.Repeat("1", 31) + ", 10 " + strings.Repeat("1", 31) + ", 10 " + binary(1, 31)},
		{"the first bit", values(0, 1<<30, 1<<30|1), "11 00000 00000 1, 11 11110 00000 1"},
		{"the last bit", values(0, 1, 1<<30), "11 11110 00000 1, 11 00000 11110 " + binary(1<<30|1, 31)},
		{"up to the last bit that is none", values(0, 0b1010000), "11 11000 00010 101"},
	}
	for _, c := range cases {
		want := binary(len(c.list), 6) + binary(0, 14) + binary(c.list[0].V, 31)
		for i, change := range strings.Split(c.bits, ",") {
			want += []string{"10 1000001", "0"}[min(i, 1)] + change
		}
		if got := checkPiece(t, c.list); got != packed(want) {
			t.Errorf("%s: %s, not %s", c.what, figures(got), want)
		}
	}
	for lead := range 31 {
		for wide := 1; wide <= 31-lead; wide++ {
			top := 1 << (30 - lead)
			low := 1 << (31 - lead - wide)
			checkPiece(t, values(0, top|low, 0, low, top&^low, impl.ValueMax, 0))
			checkPiece(t, values(impl.ValueMax, impl.ValueMax^(top|low), impl.ValueMax, low/2, top*2&impl.ValueMax))
		}
	}
}

func TestP06SamplesThatAreNotOk(t *testing.T) {
	many := steps(0, 1, make([]int, impl.PieceMax)...)
	for i := range many {
		many[i].T = i
	}
	if len(many) != 61 || impl.PiecePut(many[:60]) == "" || impl.PiecePut(many[1:]) == "" {
		t.Error("PieceMax samples are refused")
	}
	wrong := []samples{
		nil, {}, many, {{T: -1, V: 0}}, {{T: impl.TimeMax + 1, V: 0}}, {{T: 0, V: -1}}, {{T: 0, V: impl.ValueMax + 1}},
		{{T: 1, V: 1}, {T: 1, V: 1}}, {{T: 1, V: 1}, {T: 1, V: 2}}, {{T: 2, V: 1}, {T: 1, V: 1}}, {{T: 1, V: 1}, {T: 5, V: 1}, {T: 4, V: 1}}, {{T: 1, V: 1}, {T: 2, V: -1}}, {{T: 9999, V: 1}, {T: 10000, V: 1}},
	}
	for _, far := range farNumbers {
		wrong = append(wrong, samples{{T: far, V: 1}}, samples{{T: 1, V: 1}, {T: far, V: 1}})
		if far != impl.ValueMax {
			wrong = append(wrong, samples{{T: 1, V: far}}, samples{{T: 1, V: 1}, {T: 2, V: far}})
		}
	}
	for _, list := range wrong {
		if text := impl.PiecePut(list); text != "" {
			t.Errorf("PiecePut(%v) is %q", list, text)
		}
	}
}

// checkRead says that what is read is put just so.
func checkRead(t *testing.T, text string) bool {
	t.Helper()
	list, ok := impl.PieceGet(text)
	if !ok && list != nil {
		t.Fatalf("PieceGet(%q) is %v beside false", text, list)
	}
	if ok && (len(list) < 1 || len(list) > impl.PieceMax || !impl.SamplesOk(list) || packed(pieceFigures(list)) != text) {
		t.Fatalf("PieceGet(%q) is %v, which is put as %q", text, list, impl.PiecePut(list))
	}
	return ok
}

func TestP07WhatIsReadIsPutJustSo(t *testing.T) {
	d := dice(7)
	read := 0
	for range 150 {
		text := impl.PiecePut(someSamples(&d, 1+d.below(12)))
		for i := range 8 * len(text) {
			turned := []byte(text)
			turned[i/8] ^= 1 << (7 - i%8)
			if checkRead(t, string(turned)) {
				read++
			}
		}
	}
	if read == 0 {
		t.Error("no piece with a bit turned is read: the test says nothing")
	}
	for range 20000 {
		checkRead(t, binaryText(&d))
	}
}

// binaryText makes bytes that begin as a piece of few samples does.
func binaryText(d *dice) string {
	return packed(binary(d.below(5), 6)+binary(d.below(10100), 14)+binary(d.below(1<<30), 31)) + d.text(d.below(12))
}

func TestP07AByteMoreOrLess(t *testing.T) {
	d := dice(77)
	for range 500 {
		text := impl.PiecePut(someSamples(&d, 1+d.below(impl.PieceMax)))
		for _, more := range []string{"\x00", "\x01", "\x80", "\xff", "\x00\x00"} {
			noPiece(t, "a byte more", text+more)
		}
		for size := range len(text) {
			noPiece(t, "bytes less", text[:size])
		}
		noPiece(t, "without its first byte", text[1:])
	}
	noPiece(t, "the empty text", "")
	for size := range 1000 {
		noPiece(t, "noughts", strings.Repeat("\x00", size))
		noPiece(t, "ones", strings.Repeat("\xff", size))
	}
}

func TestP07BitsThatFillTheLastByte(t *testing.T) {
	ends := map[int]samples{}
	d := dice(777)
	for range 2000 {
		list := someSamples(&d, 1+d.below(20))
		ends[len(pieceFigures(list))%8] = list
	}
	for rest := range 8 {
		list := ends[rest]
		if list == nil {
			t.Fatalf("no samples whose bits end at %d of a byte", rest)
		}
		text := checkPiece(t, list)
		if size := (len(pieceFigures(list)) + 7) / 8; len(text) != size {
			t.Errorf("%d bytes, not %d", len(text), size)
		}
		for spare := range (8 - rest) % 8 {
			turned := []byte(text)
			turned[len(turned)-1] |= 1 << spare
			noPiece(t, "last bits that are not noughts", string(turned))
		}
	}
}

func TestP07PiecesThatAreNone(t *testing.T) {
	zero := binary(0, 14) + binary(0, 31)
	head := func(count int) string { return binary(count, 6) + zero }
	step := "10 1000001"
	cases := map[string]string{
		"no samples":                      head(0),
		"one sample told as two":          head(2),
		"two told as one":                 head(1) + step + "0",
		"the second at the same time":     head(2) + "0 0",
		"the second ahead":                head(2) + "10 0111111 0",
		"a later one ahead":               head(3) + step + "0 10 0111110 0",
		"a later one at the same time":    head(3) + step + "0 10 0111111 0",
		"no step in bits":                 head(3) + step + "0 10 1000000 0",
		"a step in too many bits":         head(2) + "110" + binary(513, 10) + "0",
		"a step in far too many bits":     head(2) + "111" + binary(16385, 15) + "0",
		"a long step in too many bits":    head(2) + "111" + binary(16384+511, 15) + "0",
		"a first time past TimeMax":       binary(1, 6) + binary(10000, 14) + binary(0, 31),
		"a later time past TimeMax":       binary(2, 6) + binary(9999, 14) + binary(0, 31) + step + "0",
		"a far time":                      head(2) + "111" + binary(32767, 15) + "0",
		"a frame that never was":          head(2) + step + "10 1",
		"a frame that never was, later":   head(3) + step + "0 0 10 1",
		"a frame with no room":            head(2) + step + "11 11111 00000 1",
		"a frame one too wide":            head(2) + step + "11 11110 00001 11",
		"a frame far too wide":            head(2) + step + "11 11111 11111" + strings.Repeat("1", 32),
		"a frame of 32 bits":              head(2) + step + "11 00000 11111" + strings.Repeat("1", 32),
		"a frame with a nought ahead":     head(2) + step + "11 11100 00001 01",
		"a frame with a nought behind":    head(2) + step + "11 11100 00001 10",
		"a frame of noughts":              head(2) + step + "11 11100 00001 00",
		"noughts in the frame that was":   head(3) + step + "11 11100 00001 11 0 10 00",
		"a fresh frame, the old one fits": head(3) + step + "11 11100 00001 11 0 11 11100 00001 11",
		"it breaks off in the frame":      head(2) + step + "11 000",
		"it breaks off in its bits":       head(2) + step + "11 00000 11110 1",
		"it breaks off in a step":         head(2) + "111 0",
		"it breaks off in the first":      binary(1, 6) + binary(0, 14),
		"it breaks off in the time":       binary(1, 6) + "00",
	}
	for what, bits := range cases {
		noPiece(t, what, packed(bits))
	}
	for count := impl.PieceMax + 1; count < 64; count++ {
		noPiece(t, "too many samples", packed(head(count)+step+"0"+strings.Repeat("00", count-2)))
	}
	if _, ok := impl.PieceGet(packed(head(impl.PieceMax) + step + "0" + strings.Repeat("00", impl.PieceMax-2))); !ok {
		t.Error("PieceMax samples are not read")
	}
}

func TestP08SteadySamplesTakeTwoBits(t *testing.T) {
	for n := 1; n <= impl.PieceMax; n++ {
		for step := 1; step <= 50; step++ {
			for _, v := range []int{0, 1, 123456, impl.ValueMax} {
				list := steps(7, v, make([]int, n-1)...)
				for i := range list {
					list[i].T = 7 + i*step
				}
				text := impl.PiecePut(list)
				if text == "" || 8*len(text) > 75+2*n {
					t.Fatalf("%d samples at a step of %d take %d bytes", n, step, len(text))
				}
				if back, ok := impl.PieceGet(text); !ok || !sameSamples(back, list) {
					t.Fatalf("%v is read as %v", list, back)
				}
			}
		}
	}
}

func TestSamplesOk(t *testing.T) {
	all := make(samples, impl.TimeMax+1)
	for i := range all {
		all[i] = impl.Sample{T: i, V: impl.ValueMax - i}
	}
	for _, list := range []samples{nil, {}, {{T: 0, V: 0}}, {{T: impl.TimeMax, V: impl.ValueMax}}, {{T: 0, V: 5}, {T: 1, V: 5}}, {{T: 3, V: 9}, {T: 9, V: 3}}, all} {
		if !impl.SamplesOk(list) {
			t.Errorf("%d samples are not ok", len(list))
		}
	}
	wrong := []samples{
		{{T: -1, V: 0}}, {{T: 0, V: -1}}, {{T: impl.TimeMax + 1, V: 0}}, {{T: 0, V: impl.ValueMax + 1}}, {{T: 5, V: 1}, {T: 5, V: 1}}, {{T: 5, V: 1}, {T: 4, V: 1}},
		{{T: 1, V: 1}, {T: 2, V: 1}, {T: 2, V: 1}}, {{T: 1, V: 1}, {T: 3, V: 1}, {T: 2, V: 1}}, {{T: 1, V: 1}, {T: 2, V: impl.ValueMax + 1}, {T: 3, V: 1}},
		append(append(samples{}, all...), impl.Sample{T: impl.TimeMax, V: 0}),
	}
	for _, list := range wrong {
		if impl.SamplesOk(list) {
			t.Errorf("%d samples are ok: %v ..", len(list), list[:1])
		}
	}
}

// joined is what SamplesJoin must answer, by way of a map.
func joined(a, b samples) (samples, bool) {
	at := map[int]int{}
	for _, x := range append(append(samples{}, a...), b...) {
		if v, ok := at[x.T]; ok && v != x.V {
			return nil, false
		}
		at[x.T] = x.V
	}
	var out samples
	for i := range impl.TimeMax + 1 {
		if v, ok := at[i]; ok {
			out = append(out, impl.Sample{T: i, V: v})
		}
	}
	return out, true
}

// fewSamples makes samples of few times and numbers, so that two lists meet.
func fewSamples(d *dice, numbers int) samples {
	var list samples
	for at := range 12 {
		if d.below(3) == 0 {
			list = append(list, impl.Sample{T: at, V: at + d.below(numbers)})
		}
	}
	return list
}

func checkJoin(t *testing.T, a, b samples) bool {
	t.Helper()
	want, good := joined(a, b)
	one, okOne := impl.SamplesJoin(a, b)
	two, okTwo := impl.SamplesJoin(b, a)
	if okOne != good || okTwo != good || !sameSamples(one, want) || !sameSamples(two, want) {
		t.Fatalf("SamplesJoin(%v, %v) is %v, %v, the other way round %v, %v", a, b, one, okOne, two, okTwo)
	}
	return good
}

func TestP09SamplesOfBoth(t *testing.T) {
	d := dice(9)
	clashes := 0
	for i := range 5000 {
		if !checkJoin(t, fewSamples(&d, 1+i%2), fewSamples(&d, 1+i%2)) {
			clashes++
		}
	}
	if clashes < 100 || clashes > 4900 {
		t.Errorf("%d clashes: the test says little", clashes)
	}
	for range 50 {
		list := someSamples(&d, 60)
		checkJoin(t, list, list)
		checkJoin(t, list, nil)
		checkJoin(t, list[:len(list)/2], list[len(list)/3:])
	}
	checkJoin(t, nil, nil)
	checkJoin(t, samples{{T: 0, V: 0}}, samples{{T: impl.TimeMax, V: impl.ValueMax}})
	long := make(samples, impl.TimeMax+1)
	for i := range long {
		long[i].T = i
	}
	checkJoin(t, long, long)
	checkJoin(t, long, samples{{T: 5000, V: 1}})
}

func TestP09SamplesThatAreNotOk(t *testing.T) {
	good := samples{{T: 1, V: 1}, {T: 2, V: 2}}
	for _, wrong := range []samples{{{T: 2, V: 2}, {T: 1, V: 1}}, {{T: 1, V: 1}, {T: 1, V: 1}}, {{T: -1, V: 1}}, {{T: 10000, V: 1}}, {{T: 5, V: -1}}, {{T: 5, V: impl.ValueMax + 1}}, {{T: 1, V: 1}, {T: math.MaxInt, V: 1}}} {
		for _, pair := range [][2]samples{{good, wrong}, {wrong, good}, {wrong, nil}, {nil, wrong}, {wrong, wrong}} {
			if list, ok := impl.SamplesJoin(pair[0], pair[1]); ok || list != nil {
				t.Errorf("SamplesJoin(%v, %v) is %v, %v", pair[0], pair[1], list, ok)
			}
		}
		if list := impl.SamplesCut(wrong, 0, 10000); list != nil {
			t.Errorf("SamplesCut(%v) is %v", wrong, list)
		}
	}
}

func TestP10BothSidesAreAll(t *testing.T) {
	d := dice(10)
	for range 3000 {
		list := fewSamples(&d, 5)
		from, to, at := d.below(16)-2, d.below(16)-2, d.below(16)-2
		var want samples
		for _, x := range list {
			if from <= x.T && x.T < to {
				want = append(want, x)
			}
		}
		if got := impl.SamplesCut(list, from, to); !sameSamples(got, want) {
			t.Fatalf("SamplesCut(%v, %d, %d) is %v", list, from, to, got)
		}
		ahead := impl.SamplesCut(list, math.MinInt, at)
		behind := impl.SamplesCut(list, at, math.MaxInt)
		if !sameSamples(append(ahead, behind...), list) {
			t.Fatalf("%v cut at %d is %v", list, at, ahead)
		}
	}
}

func TestP10EdgesOfTime(t *testing.T) {
	list := samples{{T: 0, V: 1}, {T: 5, V: 2}, {T: impl.TimeMax, V: 3}}
	cases := map[string][2]int{
		"[{0 1} {5 2} {9999 3}]": {0, impl.TimeMax + 1},
		"[{0 1} {5 2}]":          {0, impl.TimeMax},
		"[{5 2} {9999 3}]":       {1, impl.TimeMax + 1},
		"[{5 2}]":                {5, 6},
		"[{9999 3}]":             {6, math.MaxInt},
		"[{0 1}]":                {math.MinInt, 5},
	}
	for want, c := range cases {
		if got := fmt.Sprint(impl.SamplesCut(list, c[0], c[1])); got != want {
			t.Errorf("from %d to %d: %s, not %s", c[0], c[1], got, want)
		}
	}
	for _, c := range [][2]int{{5, 5}, {6, 5}, {10000, 0}, {math.MaxInt, math.MinInt}, {-5, 0}, {10000, math.MaxInt}, {6, 9999}} {
		if got := impl.SamplesCut(list, c[0], c[1]); got != nil {
			t.Errorf("from %d to %d: %v", c[0], c[1], got)
		}
	}
	if impl.SamplesCut(nil, 0, 10000) != nil {
		t.Error("of nothing")
	}
}

func TestSamplesLeaveTheirArguments(t *testing.T) {
	mark := impl.Sample{T: 4242, V: 42}
	good := samples{{T: 1, V: 1}, {T: 2, V: 2}, {T: 5, V: 6}}
	for _, list := range []samples{good, good[:1], {{T: 2, V: 3}}, {{T: 9, V: 9}, {T: 8, V: 8}}, nil} {
		a, b := guard(list, mark), guard(good, mark)
		check := func(call string, answers ...samples) {
			t.Helper()
			a.check(t, call)
			b.check(t, call)
			kept := fmt.Sprint(answers)
			spare := append(samples{}, a.list[:cap(a.list)]...)
			spoil(a.list, impl.Sample{T: 7, V: 7})
			spoil(b.list, impl.Sample{T: 7, V: 7})
			if fmt.Sprint(answers) != kept {
				t.Errorf("what %s answers changes with its argument", call)
			}
			copy(a.list[:cap(a.list)], spare)
			copy(b.list[:cap(b.list)], b.kept)
			for _, answer := range answers {
				spoil(answer, impl.Sample{T: 8, V: 8})
			}
			a.check(t, call+", its answer written over,")
			b.check(t, call+", its answer written over,")
		}
		impl.SamplesOk(a.list)
		impl.PiecePut(a.list)
		check("PiecePut")
		one, _ := impl.SamplesJoin(a.list, b.list)
		two, _ := impl.SamplesJoin(b.list, a.list)
		check("SamplesJoin", one, two)
		lone, _ := impl.SamplesJoin(a.list, nil)
		other, _ := impl.SamplesJoin(nil, a.list)
		check("SamplesJoin with nothing", lone, other)
		check("SamplesCut", impl.SamplesCut(a.list, 0, 10000), impl.SamplesCut(a.list, 0, 2), impl.SamplesCut(b.list, 2, 6))
	}
}

func TestPiecesKeepNothing(t *testing.T) {
	text := impl.PiecePut(samples{{T: 1, V: 1}, {T: 2, V: 2}})
	one, _ := impl.PieceGet(text)
	spoil(one, impl.Sample{T: 8, V: 8})
	if two, ok := impl.PieceGet(text); !ok || !sameSamples(two, samples{{T: 1, V: 1}, {T: 2, V: 2}}) {
		t.Errorf("a piece read again is %v", two)
	}
}
