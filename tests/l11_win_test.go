package tests

import (
	"fmt"
	"maps"
	"math"
	"slices"
	"strings"
	"testing"

	"loop.example/almanack/impl"
)

type wins = []impl.Win

// wrongSamples is samples that are not ok, each in one way.
func wrongSamples() map[string]samples {
	out := map[string]samples{
		"times descending":      {{T: 2, V: 2}, {T: 1, V: 1}},
		"a time twice":          {{T: 1, V: 1}, {T: 1, V: 1}},
		"a time below 0":        {{T: -1, V: 1}},
		"a time too great":      {{T: 1, V: 1}, {T: impl.TimeMax + 1, V: 1}},
		"a number below 0":      {{T: 5, V: -1}, {T: 6, V: 1}},
		"a number too great":    {{T: 5, V: 1}, {T: 6, V: impl.ValueMax + 1}},
		"the last out of order": {{T: 1, V: 1}, {T: 7, V: 7}, {T: 6, V: 1}},
	}
	for _, n := range farNumbers {
		if n != impl.ValueMax {
			out[fmt.Sprint("a number ", n)] = samples{{T: 5, V: n}}
		}
		out[fmt.Sprint("a time ", n)] = samples{{T: n, V: 5}}
	}
	return out
}

// winOver is what samples of a time come to; false, if there are none.
func winOver(list samples, from, to int) (impl.Win, bool) {
	w := impl.Win{From: from, Low: math.MaxInt}
	for _, x := range list {
		if x.T < from || x.T >= to {
			continue
		}
		w.Count++
		w.Sum += x.V
		if x.V < w.Low {
			w.Low = x.V
		}
		if x.V > w.High {
			w.High = x.V
		}
		w.Last = x.V
	}
	return w, w.Count > 0
}

// plainWins is what Wins must be, of what is ok: while by while, all samples looked at in each.
func plainWins(list samples, from, to, step int) wins {
	var out wins
	for begin := from; begin < to; begin += step {
		if w, some := winOver(list, begin, min(begin+step, to)); some {
			out = append(out, w)
		}
	}
	return out
}

func checkWins(t *testing.T, list samples, from, to, step int) wins {
	t.Helper()
	got, want := impl.Wins(list, from, to, step), plainWins(list, from, to, step)
	if !slices.Equal(got, want) {
		t.Fatalf("Wins(%v, %d, %d, %d) is %v, not %v", list, from, to, step, got, want)
	}
	count, sum, cut := 0, 0, impl.SamplesCut(list, from, to)
	for i, w := range got {
		count, sum = count+w.Count, sum+w.Sum
		if w.Low > w.Last || w.Last > w.High || w.From < from || w.From >= to || (w.From-from)%step != 0 || i > 0 && w.From < got[i-1].From+step {
			t.Fatalf("Wins(%v, %d, %d, %d) has %v", list, from, to, step, w)
		}
	}
	for _, x := range cut {
		sum -= x.V
	}
	if count != len(cut) || sum != 0 {
		t.Fatalf("Wins(%v, %d, %d, %d) is %v, of %d samples", list, from, to, step, got, len(cut))
	}
	return got
}

func TestP54WhilesHaveAllSamples(t *testing.T) {
	d := dice(54)
	some, none := 0, 0
	for range 3000 {
		list := someSamples(&d, d.below(40))
		if d.below(2) == 0 {
			list = fewSamples(&d, 5)
		}
		from := d.below(1 + d.below(10000))
		to := min(from+d.below(1+d.below(10001)), 10000)
		step := 1 + d.below(1+d.below(9999))
		if len(checkWins(t, list, from, to, step)) > 0 {
			some++
		} else {
			none++
		}
		checkWins(t, fewSamples(&d, 5), d.below(8), 8+d.below(8), 1+d.below(6))
	}
	if some < 500 || none < 100 {
		t.Errorf("some whiles %d times, none %d times", some, none)
	}
}

func TestP54EdgesOfWhiles(t *testing.T) {
	at := func(times ...int) samples {
		var out samples
		for _, at := range times {
			out = append(out, impl.Sample{T: at, V: at + 1})
		}
		return out
	}
	all := at(upTo(0, 10000, 1)...)
	cases := []struct {
		list           samples
		from, to, step int
		want           string
	}{
		{at(5), 0, 10000, 10, "[{0 1 6 6 6 6}]"},
		{at(0), 0, 10, 10, "[{0 1 1 1 1 1}]"},
		{at(9), 0, 10, 10, "[{0 1 10 10 10 10}]"},
		{at(9, 10), 0, 20, 10, "[{0 1 10 10 10 10} {10 1 11 11 11 11}]"},
		{at(0, 9, 10, 19), 0, 20, 10, "[{0 2 11 1 10 10} {10 2 31 11 20 20}]"},
		{at(0, 30), 0, 40, 10, "[{0 1 1 1 1 1} {30 1 31 31 31 31}]"},
		{at(3, 4, 5), 4, 5, 1, "[{4 1 5 5 5 5}]"},
		{at(3, 4, 5), 4, 5, 10, "[{4 1 5 5 5 5}]"},
		{at(3, 4, 5), 4, 4, 10, "[]"},
		{at(3, 4, 5), 6, 100, 10, "[]"},
		{at(3, 4, 5), 0, 3, 10, "[]"},
		{at(20, 24, 25, 29), 0, 25, 10, "[{20 2 46 21 25 25}]"},
		{at(20, 24, 25, 29), 5, 29, 10, "[{15 2 46 21 25 25} {25 1 26 26 26 26}]"},
		{at(20, 24, 25, 29), 5, 25, 10, "[{15 2 46 21 25 25}]"},
		{at(9998, 9999), 0, 10000, 9999, "[{0 1 9999 9999 9999 9999} {9999 1 10000 10000 10000 10000}]"},
		{at(9998, 9999), 1, 10000, 9999, "[{1 2 19999 9999 10000 10000}]"},
		{at(9998, 9999), 0, 9999, 9999, "[{0 1 9999 9999 9999 9999}]"},
		{at(9998, 9999), 9999, 10000, 9999, "[{9999 1 10000 10000 10000 10000}]"},
		{at(9998, 9999), 9999, 10000, 1, "[{9999 1 10000 10000 10000 10000}]"},
		{at(9998, 9999), 9999, 9999, 1, "[]"},
		{at(0, 9999), 0, 10000, 1, "[{0 1 1 1 1 1} {9999 1 10000 10000 10000 10000}]"},
		{all, 0, 10000, 9999, "[{0 9999 49995000 1 9999 9999} {9999 1 10000 10000 10000 10000}]"},
		{samples{{T: 1, V: 7}, {T: 2, V: 0}, {T: 3, V: 4}}, 0, 10, 10, "[{0 3 11 0 7 4}]"},
		{samples{{T: 1, V: 0}}, 0, 10, 10, "[{0 1 0 0 0 0}]"},
		{samples{{T: 1, V: impl.ValueMax}, {T: 2, V: impl.ValueMax}}, 0, 10, 10, "[{0 2 4294967294 2147483647 2147483647 2147483647}]"},
		{nil, 0, 10000, 10, "[]"},
	}
	for i, c := range cases {
		if got := fmt.Sprint(checkWins(t, c.list, c.from, c.to, c.step)); got != c.want {
			t.Errorf("case %d: %s, not %s", i, got, c.want)
		}
	}
	if got := len(checkWins(t, all, 0, 10000, 1)); got != 10000 {
		t.Errorf("of all times with the step 1 there are %d whiles", got)
	}
}

func TestP54WhatIsNotOk(t *testing.T) {
	good := samples{{T: 0, V: 5}, {T: 20, V: 3}, {T: 9999, V: 9}}
	none := func(list samples, from, to, step int) {
		t.Helper()
		if got := impl.Wins(list, from, to, step); got != nil {
			t.Errorf("Wins(%v, %d, %d, %d) is %v", list, from, to, step, got)
		}
	}
	checkWins(t, good, 0, 10000, impl.TimeMax)
	for _, n := range append([]int{-1, 0, impl.TimeMax + 1}, farNumbers...) {
		none(good, 0, 10000, n)
	}
	for _, n := range append([]int{-1, impl.TimeMax + 1}, farNumbers...) {
		none(good, n, 10000, 10)
		none(good, n, n, 10)
	}
	for _, n := range append([]int{-1, impl.TimeMax + 2}, farNumbers...) {
		none(good, 0, n, 10)
	}
	none(good, 20, 19, 10)
	none(good, 9999, 0, 10)
	for _, list := range wrongSamples() {
		none(list, 0, 10000, 10)
	}
}

// checkWinsJoin holds WinsJoin of whiles against what is said of it.
func checkWinsJoin(t *testing.T, list wins, want impl.Win, fine bool) {
	t.Helper()
	if got, ok := impl.WinsJoin(list); ok != fine || got != want {
		t.Fatalf("WinsJoin(%v) is %v, %v, not %v, %v", list, got, ok, want, fine)
	}
}

func TestP55OneOfSeveralWhiles(t *testing.T) {
	d := dice(55)
	for range 3000 {
		list := someSamples(&d, d.below(60))
		from := d.below(200)
		to := from + d.below(10001-from)
		each := impl.Wins(list, from, to, 1+d.below(1+d.below(900)))
		want, some := winOver(list, from, to)
		if some {
			want.From = each[0].From
		} else {
			want = impl.Win{}
		}
		checkWinsJoin(t, each, want, some)
	}
	full := upTo(0, 10000, 1)
	var list samples
	for _, at := range full {
		list = append(list, impl.Sample{T: at, V: impl.ValueMax})
	}
	for _, step := range []int{1, 7, 100, 9999} {
		checkWinsJoin(t, impl.Wins(list, 0, 10000, step), impl.Win{Count: 10000, Sum: 10000 * impl.ValueMax, Low: impl.ValueMax, High: impl.ValueMax, Last: impl.ValueMax}, true)
	}
}

func TestP55LongerWhiles(t *testing.T) {
	d := dice(5555)
	for range 500 {
		list := someSamples(&d, d.below(60))
		step, times := 1+d.below(300), 1+d.below(9)
		short, long := impl.Wins(list, 0, 10000, step), impl.Wins(list, 0, 10000, min(step*times, 9999))
		for _, want := range long {
			var part wins
			for _, w := range short {
				if w.From >= want.From && w.From < want.From+step*times {
					part = append(part, w)
				}
			}
			got, ok := impl.WinsJoin(part)
			if got.From = want.From; !ok || got != want {
				t.Fatalf("WinsJoin(%v) is %v, %v, not %v", part, got, ok, want)
			}
		}
	}
}

// someWin is a while such as samples may have.
func someWin(d *dice, from, count int) impl.Win {
	list := []int{d.below(50), d.below(50), d.below(50)}
	slices.Sort(list)
	low, last, high := list[0], list[1], list[2]
	return impl.Win{From: from, Count: count, Sum: low*count + d.below((high-low)*count+1), Low: low, High: high, Last: last}
}

func TestP56PartsPutTogether(t *testing.T) {
	d := dice(56)
	for range 2000 {
		var list wins
		want := impl.Win{Low: math.MaxInt}
		for at := d.below(20); len(list) < 1+d.below(12); at += 1 + d.below(300) {
			w := someWin(&d, at, 1+d.below(800))
			list = append(list, w)
			want.Count += w.Count
			want.Sum += w.Sum
			want.Low, want.High, want.Last = min(want.Low, w.Low), max(want.High, w.High), w.Last
		}
		want.From = list[0].From
		checkWinsJoin(t, list, want, true)
		for at := 1; at < len(list); at++ {
			a, fineA := impl.WinsJoin(list[:at])
			b, fineB := impl.WinsJoin(list[at:])
			if !fineA || !fineB {
				t.Fatalf("a part of %v is not put together", list)
			}
			checkWinsJoin(t, wins{a, b}, want, true)
		}
	}
}

func TestP56EdgesOfWhilesPutTogether(t *testing.T) {
	alike := func(from, count, v int) impl.Win {
		return impl.Win{From: from, Count: count, Sum: count * v, Low: v, High: v, Last: v}
	}
	good := []struct {
		list wins
		want impl.Win
	}{
		{wins{alike(0, 1, 0)}, alike(0, 1, 0)},
		{wins{alike(9999, 1, impl.ValueMax)}, alike(9999, 1, impl.ValueMax)},
		{wins{alike(0, 10000, impl.ValueMax)}, alike(0, 10000, impl.ValueMax)},
		{wins{alike(0, 1, 3), alike(9999, 1, 3)}, alike(0, 2, 3)},
		{wins{alike(7, 5000, 3), alike(8, 5000, 3)}, alike(7, 10000, 3)},
		{wins{alike(7, 1, 3), alike(8, 9999, 3)}, alike(7, 10000, 3)},
		{wins{alike(1, 4000, 3), alike(2, 3000, 3), alike(3, 3000, 3)}, alike(1, 10000, 3)},
		{wins{alike(5, 2, 9), alike(6, 2, 4)}, impl.Win{From: 5, Count: 4, Sum: 26, Low: 4, High: 9, Last: 4}},
		{wins{alike(5, 2, 4), alike(6, 2, 9)}, impl.Win{From: 5, Count: 4, Sum: 26, Low: 4, High: 9, Last: 9}},
		{wins{{From: 5, Count: 3, Sum: 6, Low: 2, High: 5, Last: 2}}, impl.Win{From: 5, Count: 3, Sum: 6, Low: 2, High: 5, Last: 2}},
		{wins{{From: 5, Count: 3, Sum: 15, Low: 2, High: 5, Last: 5}}, impl.Win{From: 5, Count: 3, Sum: 15, Low: 2, High: 5, Last: 5}},
		{wins{{From: 5, Count: 3, Sum: 9, Low: 0, High: impl.ValueMax, Last: 0}}, impl.Win{From: 5, Count: 3, Sum: 9, Low: 0, High: impl.ValueMax, Last: 0}},
	}
	for _, c := range good {
		checkWinsJoin(t, c.list, c.want, true)
	}
	for what, list := range map[string]wins{
		"none":                      nil,
		"none, but a list":          {},
		"From alike":                {alike(5, 1, 3), alike(5, 1, 3)},
		"From descending":           {alike(5, 1, 3), alike(4, 1, 3)},
		"the last From alike":       {alike(1, 1, 3), alike(5, 1, 3), alike(5, 2, 3)},
		"one more together":         {alike(7, 5000, 3), alike(8, 5001, 3)},
		"one more of three":         {alike(1, 4000, 3), alike(2, 3000, 3), alike(3, 3001, 3)},
		"twice as many as may be":   {alike(0, 10000, 3), alike(1, 10000, 3)},
		"two of many more together": {alike(0, 9999, 3), alike(1, 9999, 3), alike(2, 9999, 3)},
	} {
		if got, ok := impl.WinsJoin(list); ok || got != (impl.Win{}) {
			t.Errorf("%s: WinsJoin is %v, %v", what, got, ok)
		}
	}
}

func TestP56WhilesThatSamplesCannotHave(t *testing.T) {
	fine := impl.Win{From: 50, Count: 3, Sum: 10, Low: 2, High: 5, Last: 3}
	ahead, behind := impl.Win{From: 2, Count: 1}, impl.Win{From: 9998, Count: 1}
	wrong := func(what string, spoil func(w *impl.Win)) {
		t.Helper()
		w := fine
		spoil(&w)
		for _, list := range []wins{{w}, {ahead, w}, {w, behind}, {ahead, w, behind}, {w, w}} {
			if got, ok := impl.WinsJoin(list); ok || got != (impl.Win{}) {
				t.Errorf("%s: WinsJoin(%v) is %v, %v", what, list, got, ok)
			}
		}
	}
	if _, ok := impl.WinsJoin(wins{ahead, fine, behind}); !ok {
		t.Error("WinsJoin of what is ok is false")
	}
	wrong("From below 0", func(w *impl.Win) { w.From = -1 })
	wrong("From too great", func(w *impl.Win) { w.From = impl.TimeMax + 1 })
	wrong("Count 0", func(w *impl.Win) { w.Count, w.Sum = 0, 0 })
	wrong("Count below 0", func(w *impl.Win) { w.Count, w.Sum = -1, -3 })
	wrong("Count too great", func(w *impl.Win) { w.Count, w.Sum = 10001, 30000 })
	wrong("Low above Last", func(w *impl.Win) { w.Low, w.Last, w.Sum = 4, 3, 13 })
	wrong("Last above High", func(w *impl.Win) { w.Last = 6 })
	wrong("Low above High", func(w *impl.Win) { w.Low, w.High = 5, 2 })
	wrong("High too great", func(w *impl.Win) { w.High = impl.ValueMax + 1 })
	wrong("all too great", func(w *impl.Win) {
		*w = impl.Win{From: 50, Count: 1, Sum: 1 << 31, Low: 1 << 31, High: 1 << 31, Last: 1 << 31}
	})
	wrong("Low below 0", func(w *impl.Win) { w.Low = -1 })
	wrong("all below 0", func(w *impl.Win) { w.Low, w.Last, w.High, w.Sum = -1, -1, -1, -3 })
	wrong("Sum below all of Low", func(w *impl.Win) { w.Sum = 5 })
	wrong("Sum above all of High", func(w *impl.Win) { w.Sum = 16 })
	wrong("Sum as Low of one", func(w *impl.Win) { w.Sum = 2 })
	for _, n := range farNumbers {
		wrong(fmt.Sprint("From ", n), func(w *impl.Win) { w.From = n })
		wrong(fmt.Sprint("Count ", n), func(w *impl.Win) { w.Count = n })
		wrong(fmt.Sprint("Sum ", n), func(w *impl.Win) { w.Sum = n })
		wrong(fmt.Sprint("Low ", n), func(w *impl.Win) { w.Low = n })
		wrong(fmt.Sprint("Last ", n), func(w *impl.Win) { w.Last = n })
		if n != impl.ValueMax {
			wrong(fmt.Sprint("High ", n), func(w *impl.Win) { w.High = n })
			wrong(fmt.Sprint("all ", n), func(w *impl.Win) { w.Low, w.Last, w.High, w.Sum = n, n, n, 3*n })
		}
	}
}

// plainThin is what Thin must be: samples behind which no other one is in the same while.
func plainThin(list samples, step int) samples {
	last := map[int]impl.Sample{}
	for _, x := range list {
		last[x.T/step] = x
	}
	var out samples
	for _, at := range slices.Sorted(maps.Keys(last)) {
		out = append(out, last[at])
	}
	return out
}

func checkThin(t *testing.T, list samples, step int) samples {
	t.Helper()
	got, want := impl.Thin(list, step), plainThin(list, step)
	if !slices.Equal(got, want) {
		t.Fatalf("Thin(%v, %d) is %v, not %v", list, step, got, want)
	}
	if again := impl.Thin(got, step); !slices.Equal(again, got) {
		t.Fatalf("Thin(%v, %d) again is %v", list, step, again)
	}
	for _, x := range got {
		if !slices.Contains(list, x) {
			t.Fatalf("Thin(%v, %d) has %v", list, step, x)
		}
	}
	return got
}

func TestP57SamplesMadeLess(t *testing.T) {
	d := dice(57)
	for range 3000 {
		checkThin(t, someSamples(&d, d.below(50)), 1+d.below(1+d.below(9999)))
		checkThin(t, fewSamples(&d, 5), 1+d.below(7))
	}
	cases := []struct {
		list samples
		step int
		want string
	}{
		{steps(0, 5, 1, 1, 1), 1, "[{0 5} {1 5} {2 5} {3 5}]"},
		{samples{{T: 0, V: 1}, {T: 9, V: 2}, {T: 10, V: 3}, {T: 19, V: 4}, {T: 20, V: 5}}, 10, "[{9 2} {19 4} {20 5}]"},
		{samples{{T: 5, V: 1}, {T: 14, V: 2}}, 10, "[{5 1} {14 2}]"},
		{samples{{T: 0, V: 1}, {T: 9998, V: 2}, {T: 9999, V: 3}}, 9999, "[{9998 2} {9999 3}]"},
		{samples{{T: 0, V: 1}, {T: 9998, V: 2}}, 9999, "[{9998 2}]"},
		{samples{{T: 4, V: 9}, {T: 5, V: 0}}, 100, "[{5 0}]"},
		{samples{{T: 4, V: 9}}, 3, "[{4 9}]"},
		{nil, 3, "[]"},
	}
	for i, c := range cases {
		if got := fmt.Sprint(checkThin(t, c.list, c.step)); got != c.want {
			t.Errorf("case %d: %s, not %s", i, got, c.want)
		}
	}
	for _, step := range append([]int{-1, 0, impl.TimeMax + 1}, farNumbers...) {
		if got := impl.Thin(samples{{T: 4, V: 9}}, step); got != nil {
			t.Errorf("with the step %d it is %v", step, got)
		}
	}
	for what, list := range wrongSamples() {
		if got := impl.Thin(list, 1); got != nil {
			t.Errorf("%s: Thin is %v", what, got)
		}
	}
}

func checkRises(t *testing.T, list samples) int {
	t.Helper()
	want := 0
	for i, x := range list {
		switch {
		case i == 0:
		case x.V >= list[i-1].V:
			want += x.V - list[i-1].V
		default:
			want += x.V
		}
	}
	got := impl.Rises(list)
	if got != want {
		t.Fatalf("Rises(%v) is %d, not %d", list, got, want)
	}
	for i := range list {
		if a, b := impl.Rises(list[:i+1]), impl.Rises(list[i:]); a+b != got {
			t.Fatalf("Rises(%v) is %d, in parts at %d %d and %d", list, got, i, a, b)
		}
	}
	if n := len(list); n > 0 && got < list[n-1].V-list[0].V {
		t.Fatalf("Rises(%v) is %d", list, got)
	}
	return got
}

func TestP58ByHowMuchSamplesRose(t *testing.T) {
	d := dice(58)
	for range 2000 {
		checkRises(t, someSamples(&d, d.below(40)))
		checkRises(t, fewSamples(&d, 30))
	}
	for _, c := range []struct {
		numbers []int
		want    int
	}{
		{nil, 0}, {[]int{5}, 0}, {[]int{5, 5}, 0}, {[]int{5, 6}, 1}, {[]int{5, 4}, 4}, {[]int{5, 0}, 0}, {[]int{0, 0, 0}, 0}, {[]int{0, 7}, 7}, {[]int{7, 6}, 6},
		{[]int{5, 9, 2, 3}, 7}, {[]int{9, 3, 3, 1, 4}, 7}, {[]int{impl.ValueMax, 0, impl.ValueMax}, impl.ValueMax}, {[]int{impl.ValueMax, impl.ValueMax - 1}, impl.ValueMax - 1},
	} {
		if got := checkRises(t, values(c.numbers...)); got != c.want {
			t.Errorf("%v: %d, not %d", c.numbers, got, c.want)
		}
	}
	var most samples
	for at := range 10000 {
		most = append(most, impl.Sample{T: at, V: at % 2 * impl.ValueMax})
	}
	if got := impl.Rises(most); got != 5000*impl.ValueMax {
		t.Errorf("up and down at all times it is %d", got)
	}
	for what, list := range wrongSamples() {
		if got := impl.Rises(append(slices.Clone(list), impl.Sample{T: 9999, V: 7})); got != 0 {
			t.Errorf("%s: Rises is %d", what, got)
		}
	}
}

// plainTotal is what Total must be, of rows that are ok.
func plainTotal(list rows, name string) (rows, bool) {
	p := plainRows{}
	for _, row := range list {
		var left labels
		for _, l := range row.Labels {
			if l.Name != name {
				left = append(left, l)
			}
		}
		if left == nil {
			return nil, false
		}
		text := labelsText(left)
		if p[text] == nil {
			p[text] = map[int]int{}
		}
		for _, x := range row.List {
			if p[text][x.T] += x.V; p[text][x.T] > impl.ValueMax {
				return nil, false
			}
		}
	}
	if !p.fits() {
		return nil, false
	}
	return p.rows(), true
}

func sumOfAll(list rows) int {
	sum := 0
	for _, row := range list {
		for _, x := range row.List {
			sum += x.V
		}
	}
	return sum
}

func checkTotal(t *testing.T, list rows, name string) (rows, bool) {
	t.Helper()
	want, fine := plainTotal(list, name)
	got, ok := impl.Total(list, name)
	if ok != fine || !sameRows(got, want) {
		t.Fatalf("Total(%v, %q) is %v, %v, not %v, %v", list, name, got, ok, want, fine)
	}
	if !ok {
		return got, ok
	}
	has, hasNow := len(impl.IndexWords(labelsOfAll(list), name, nil)) > 0, len(impl.IndexWords(labelsOfAll(got), name, nil)) > 0
	if !impl.RowsOk(got) || sumOfAll(got) != sumOfAll(list) || hasNow || !has && !sameRows(got, list) {
		t.Fatalf("Total(%v, %q) is %v", list, name, got)
	}
	return got, ok
}

func labelsOfAll(list rows) [][]impl.Label {
	var out [][]impl.Label
	for _, row := range list {
		out = append(out, row.Labels)
	}
	return out
}

func TestP59RowsPutTogether(t *testing.T) {
	d := dice(59)
	fine, not, less := 0, 0, 0
	for range 3000 {
		list := someRows(&d, 8, 12, 9)
		for _, name := range []string{"a", "b", "ab", "zz", ""} {
			got, ok := checkTotal(t, list, name)
			switch {
			case !ok:
				not++
			case len(got) < len(list):
				less++
			default:
				fine++
			}
		}
	}
	if fine < 500 || not < 500 || less < 500 {
		t.Errorf("%d as many, %d not, %d less", fine, not, less)
	}
	for what, list := range goodRows() {
		for _, name := range []string{"a", "b", "zz"} {
			if _, ok := checkTotal(t, list, name); name == "zz" && !ok {
				t.Errorf("%s: by a name that none has it is false", what)
			}
		}
	}
}

// rowOf is one of labels' text, times and numbers.
func rowOf(text string, pairs ...int) impl.Row {
	r := row(text)
	for i := 0; i < len(pairs); i += 2 {
		r.List = append(r.List, impl.Sample{T: pairs[i], V: pairs[i+1]})
	}
	return r
}

func TestP59EdgesOfTotal(t *testing.T) {
	const most = impl.ValueMax
	cases := []struct {
		list rows
		name string
		want string
	}{
		{nil, "a", "[]"},
		{rows{rowOf("{a=x}", 1, 5)}, "b", "[{[{a x}] [{1 5}]}]"},
		{rows{rowOf("{a=x,b=y}", 1, 5)}, "b", "[{[{a x}] [{1 5}]}]"},
		{rows{rowOf("{a=x,b=y}", 1, 5)}, "a", "[{[{b y}] [{1 5}]}]"},
		{rows{rowOf("{a=x,b=y}", 1, 5), rowOf("{a=x,b=z}", 2, 6)}, "b", "[{[{a x}] [{1 5} {2 6}]}]"},
		{rows{rowOf("{a=x,b=y}", 2, 6), rowOf("{a=x,b=z}", 1, 5)}, "b", "[{[{a x}] [{1 5} {2 6}]}]"},
		{rows{rowOf("{a=x,b=y}", 1, 5, 3, 1), rowOf("{a=x,b=z}", 1, 6, 2, 2)}, "b", "[{[{a x}] [{1 11} {2 2} {3 1}]}]"},
		{rows{rowOf("{a=x}", 1, 5), rowOf("{a=x,b=z}", 1, 6)}, "b", "[{[{a x}] [{1 11}]}]"},
		{rows{rowOf("{a=x,c=y}", 1, 5), rowOf("{a=z,c=x}", 1, 6)}, "a", "[{[{c x}] [{1 6}]} {[{c y}] [{1 5}]}]"},
		{rows{rowOf("{a=x,c=y}", 1, 5), rowOf("{a=z,c=x}", 1, 6), rowOf("{b=q,c=y}", 1, 7), rowOf("{c=y}", 1, 8)}, "a", "[{[{b q} {c y}] [{1 7}]} {[{c x}] [{1 6}]} {[{c y}] [{1 13}]}]"},
		{rows{rowOf("{a=x,b=y}", 1, 0), rowOf("{a=x,b=z}", 1, 0)}, "b", "[{[{a x}] [{1 0}]}]"},
		{rows{rowOf("{a=x,b=y}", 1, most-5), rowOf("{a=x,b=z}", 1, 5)}, "b", "[{[{a x}] [{1 2147483647}]}]"},
		{rows{rowOf("{a=x,b=y}", 1, most), rowOf("{a=x,b=z}", 2, most)}, "b", "[{[{a x}] [{1 2147483647} {2 2147483647}]}]"},
		{rows{rowOf("{a=x,b=y}", 1, most-5), rowOf("{a=x,b=z}", 1, 6)}, "b", "no"},
		{rows{rowOf("{a=x,b=y}", 1, most), rowOf("{a=x,b=z}", 1, most)}, "b", "no"},
		{rows{rowOf("{a=x}", 1, 5)}, "a", "no"},
		{rows{rowOf("{a=x}", 1, 5), rowOf("{b=x}", 1, 5)}, "a", "no"},
		{rows{rowOf("{a=x,b=y}", 1, 5), rowOf("{b=x}", 1, 5)}, "b", "no"},
	}
	for i, c := range cases {
		got, ok := checkTotal(t, c.list, c.name)
		if told := fmt.Sprint(got); ok && told != c.want || !ok && (c.want != "no" || got != nil) {
			t.Errorf("case %d: %s, %v, not %s", i, told, ok, c.want)
		}
	}
	two := func(n int) rows {
		return rows{row("{a=x,b=y}", upTo(0, 600, 1)...), row("{a=x,b=z}", upTo(n-400, 400, 1)...)}
	}
	if got, ok := checkTotal(t, two(impl.PointMax), "b"); !ok || len(got[0].List) != impl.PointMax {
		t.Errorf("of a thousand samples it is %v", ok)
	}
	three := append(two(impl.PointMax), row("{a=x,b=zz}", impl.PointMax))
	if got, ok := checkTotal(t, three, "b"); ok || got != nil {
		t.Error("of 1001 samples it is true")
	}
	if _, ok := checkTotal(t, append(three, row("{a=y}", 1)), "a"); ok {
		t.Error("with a row that has no other label it is true")
	}
	var ten rows
	for i := range 10 {
		ten = append(ten, rowOf(fmt.Sprintf("{a=x,b=%c}", 'a'+i), 1, most/10))
	}
	if got, ok := checkTotal(t, ten, "b"); !ok || len(got) != 1 || got[0].List[0].V != most/10*10 {
		t.Errorf("of ten rows it is %v, %v", got, ok)
	}
}

func TestP59P60WhatIsNotOk(t *testing.T) {
	for what, list := range wrongRows() {
		for _, name := range []string{"a", "b", "zz", ""} {
			if got, ok := impl.Total(list, name); ok || got != nil {
				t.Errorf("%s: Total is %v, %v", what, got, ok)
			}
		}
		for _, most := range []int{-1, 0, 1, 5, 100} {
			if got := impl.Top(list, most); got != nil {
				t.Errorf("%s: Top is %v", what, got)
			}
		}
	}
	odd := rows{row("{a=x,b=y}", 1), row("{a=x,b=z}", 1)}
	for _, name := range []string{"", "B", "b=y", "bb", "\x00", strings.Repeat("b", 100)} {
		if got, ok := checkTotal(t, odd, name); !ok || !sameRows(got, odd) {
			t.Errorf("by the name %.20q it is %v, %v", name, got, ok)
		}
	}
}

// plainTop is what Top must be: rows put by their last numbers, the first of them, put back in order.
func plainTop(list rows, most int) rows {
	places := upTo(0, len(list), 1)
	last := func(at int) int { return list[at].List[len(list[at].List)-1].V }
	slices.SortStableFunc(places, func(a, b int) int { return last(b) - last(a) })
	places = places[:max(0, min(most, len(places)))]
	slices.Sort(places)
	var out rows
	for _, at := range places {
		out = append(out, list[at])
	}
	return out
}

func checkTop(t *testing.T, list rows, most int) rows {
	t.Helper()
	got, want := impl.Top(list, most), plainTop(list, most)
	if !sameRows(got, want) || len(got) != max(0, min(most, len(list))) {
		t.Fatalf("Top(%v, %d) is %v, not %v", list, most, got, want)
	}
	return got
}

func TestP60RowsWithTheGreatestLastNumbers(t *testing.T) {
	d := dice(60)
	for range 1500 {
		list := someRows(&d, 10, 5, 1+d.below(9))
		for most := -1; most <= len(list)+1; most++ {
			got := checkTop(t, list, most)
			least := math.MaxInt
			for _, row := range got {
				least = min(least, row.List[len(row.List)-1].V)
			}
			for _, row := range list {
				in := slices.ContainsFunc(got, func(r impl.Row) bool { return labelsText(r.Labels) == labelsText(row.Labels) })
				if !in && len(got) > 0 && row.List[len(row.List)-1].V > least {
					t.Fatalf("Top(%v, %d) is %v", list, most, got)
				}
			}
		}
	}
	four := rows{rowOf("{a=a}", 1, 9, 2, 3), rowOf("{a=b}", 1, 5), rowOf("{a=c}", 1, 3), rowOf("{a=d}", 1, 0, 2, 5)}
	for most, want := range map[int]string{
		-1: "", 0: "", 1: "{a=b}1", 2: "{a=b}1{a=d}1,2", 3: "{a=a}1,2{a=b}1{a=d}1,2", 4: "{a=a}1,2{a=b}1{a=c}1{a=d}1,2", 5: "{a=a}1,2{a=b}1{a=c}1{a=d}1,2",
		math.MinInt: "", math.MaxInt: "{a=a}1,2{a=b}1{a=c}1{a=d}1,2",
	} {
		if got := rowsShort(checkTop(t, four, most)); got != want {
			t.Errorf("most %d: %s, not %s", most, got, want)
		}
	}
	alike := manyRows(10, 1)
	for most := range 12 {
		if got := checkTop(t, alike, most); !sameRows(got, alike[:min(most, 10)]) {
			t.Errorf("most %d of rows that are alike: %s", most, rowsShort(got))
		}
	}
	if got := impl.Top(nil, 5); got != nil {
		t.Errorf("of none it is %v", got)
	}
}

func TestWhilesLeaveTheirArguments(t *testing.T) {
	d := dice(11)
	for range 100 {
		list := roomy(someSamples(&d, d.below(30)))
		each := roomy(impl.Wins(list, 0, 10000, 1+d.below(900)))
		all := roomy(someRows(&d, 8, 6, 9))
		h := hand(list, each, all)
		for _, step := range []int{0, 1, 50, 9999} {
			h.check(t, "Wins", impl.Wins(list, 0, 10000, step))
			h.check(t, "Thin", impl.Thin(list, step))
		}
		impl.WinsJoin(each)
		impl.Rises(list)
		h.check(t, "WinsJoin or Rises")
		for _, name := range []string{"a", "b", "ab", "zz"} {
			got, _ := impl.Total(all, name)
			h.check(t, "Total", got)
		}
		for most := range 9 {
			h.check(t, "Top", impl.Top(all, most))
		}
	}
	for what, list := range goodRows() {
		list = roomy(list)
		h := hand(list)
		got, _ := impl.Total(list, "zz")
		h.check(t, "Total of "+what, got)
		h.check(t, "Top of "+what, impl.Top(list, 100))
	}
}
