package tests

import (
	"fmt"
	"maps"
	"math"
	"slices"
	"strings"
	"testing"

	"loop.example/almanack/impl"
)

type rows = []impl.Row

// plainRows is rows as a plain table: by labels' text and time.
type plainRows map[string]map[int]int

func labelsText(list labels) string {
	var parts []string
	for _, l := range list {
		parts = append(parts, l.Name+"="+l.Word)
	}
	return "{" + strings.Join(parts, ",") + "}"
}

func plainOf(list rows) plainRows {
	p := plainRows{}
	for _, row := range list {
		text := labelsText(row.Labels)
		p[text] = map[int]int{}
		for _, x := range row.List {
			p[text][x.T] = x.V
		}
	}
	return p
}

// put says whether no other number is there.
func (p plainRows) put(text string, at, v int) bool {
	if old, there := p[text][at]; there {
		return old == v
	}
	if p[text] == nil {
		p[text] = map[int]int{}
	}
	p[text][at] = v
	return true
}

// fits says whether there are not too many rows, or samples of one.
func (p plainRows) fits() bool {
	for _, list := range p {
		if len(list) > impl.PointMax {
			return false
		}
	}
	return len(p) <= impl.RowMax
}

func (p plainRows) rows() rows {
	var out rows
	for text, byTime := range p {
		var row impl.Row
		row.Labels, _ = labelsIn(text)
		for _, at := range slices.Sorted(maps.Keys(byTime)) {
			row.List = append(row.List, impl.Sample{T: at, V: byTime[at]})
		}
		out = append(out, row)
	}
	slices.SortFunc(out, func(a, b impl.Row) int { return strings.Compare(orderKey(a.Labels), orderKey(b.Labels)) })
	return out
}

// split is the rows that are asked for, and those that are left.
func (p plainRows) split(rules matches, from, to int) (rows, rows) {
	asked, left := plainRows{}, plainRows{}
	for text, byTime := range p {
		list, _ := labelsIn(text)
		let := len(plainFind([][]impl.Label{list}, rules)) == 1
		for at, v := range byTime {
			if let && at >= from && at < to {
				asked.put(text, at, v)
			} else {
				left.put(text, at, v)
			}
		}
	}
	return asked.rows(), left.rows()
}

func sameRows(a, b rows) bool {
	return slices.EqualFunc(a, b, func(x, y impl.Row) bool {
		return slices.Equal(x.Labels, y.Labels) && slices.Equal(x.List, y.List)
	})
}

// copied is rows that share nothing with others, as a test may change them.
func copied(list rows) rows {
	return plainOf(list).rows()
}

// someRows makes rows with few labels, times and numbers, so that two of them often have the same.
func someRows(d *dice, most, times, numbers int) rows {
	few := fewLabels()
	p := plainRows{}
	for range d.below(most + 1) {
		text := labelsText(few[d.below(len(few))])
		for range 1 + d.below(times) {
			p.put(text, d.below(times), d.below(numbers))
		}
	}
	return p.rows()
}

// row makes one row of labels' text and times.
func row(text string, times ...int) impl.Row {
	list, _ := labelsIn(text)
	r := impl.Row{Labels: list}
	for _, at := range times {
		r.List = append(r.List, impl.Sample{T: at, V: at})
	}
	return r
}

// manyRows makes n rows of points samples each.
func manyRows(n, points int) rows {
	var out rows
	for i := range n {
		out = append(out, row(fmt.Sprintf("{a=%c}", 'a'+i), upTo(0, points, 1)...))
	}
	return out
}

func wrongRows() map[string]rows {
	out := map[string]rows{
		"eleven rows":               manyRows(11, 1),
		"1001 samples":              {row("{a=x}", upTo(0, 1001, 1)...)},
		"no samples":                {{Labels: labelsOf("a", "x")}},
		"no samples in the last":    {row("{a=x}", 1), row("{b=x}")},
		"labels twice":              {row("{a=x}", 1), row("{a=x}", 2)},
		"out of order":              {row("{b=x}", 1), row("{a=x}", 1)},
		"the longer labels ahead":   {row("{a=x,b=x}", 1), row("{a=x}", 1)},
		"the longer word ahead":     {row("{a=xy}", 1), row("{a=x}", 1)},
		"the longer name ahead":     {row("{ab=x}", 1), row("{a=x}", 1)},
		"the last two out of order": {row("{a=x}", 1), row("{c=x}", 1), row("{b=x}", 1)},
		"a time twice":              {row("{a=x}", 1, 1)},
		"times descending":          {row("{a=x}", 2, 1)},
		"a time below 0":            {{Labels: labelsOf("a", "x"), List: samples{{T: -1}}}},
		"a time too great":          {{Labels: labelsOf("a", "x"), List: samples{{T: impl.TimeMax + 1}}}},
		"a number below 0":          {{Labels: labelsOf("a", "x"), List: samples{{T: 1, V: -1}}}},
		"a number too great":        {row("{a=x}", 1), {Labels: labelsOf("b", "x"), List: samples{{T: 1, V: impl.ValueMax + 1}}}},
	}
	for what, list := range wrongLabels {
		out["labels, "+what] = rows{{Labels: list, List: samples{{T: 1, V: 1}}}}
	}
	return out
}

func goodRows() map[string]rows {
	return map[string]rows{
		"none":                   nil,
		"none, but a list":       {},
		"one":                    {row("{a=x}", 1)},
		"ten of a thousand":      manyRows(impl.RowMax, impl.PointMax),
		"the edges":              {{Labels: labelsOf("a", "x"), List: samples{{T: 0, V: 0}, {T: impl.TimeMax, V: impl.ValueMax}}}},
		"a beginning of another": {row("{a=x}", 1), row("{a=x,b=x}", 1), row("{a=x,b=x,c=x}", 1), row("{a=xa}", 1), row("{aa=a}", 1)},
	}
}

func TestRowsOk(t *testing.T) {
	for what, list := range goodRows() {
		if !impl.RowsOk(list) {
			t.Errorf("%s: RowsOk is false", what)
		}
	}
	for what, list := range wrongRows() {
		if impl.RowsOk(list) {
			t.Errorf("%s: RowsOk is true", what)
		}
	}
}

func checkAdd(t *testing.T, list rows, under labels, x impl.Sample) (rows, bool) {
	t.Helper()
	got, ok := impl.RowsAdd(list, under, x)
	p := plainOf(list)
	want := p.put(labelsText(under), x.T, x.V) && p.fits()
	if !want {
		p = plainOf(list)
	}
	if ok != want || !sameRows(got, p.rows()) {
		t.Fatalf("RowsAdd(%v, %v, %v) is %v, %v", list, under, x, got, ok)
	}
	return got, ok
}

func TestP22WhatWasPutIsThere(t *testing.T) {
	d := dice(22)
	few := fewLabels()
	for range 150 {
		var list rows
		for range 60 {
			under, x := few[d.below(15)], impl.Sample{T: d.below(8), V: d.below(2)}
			got, ok := checkAdd(t, list, under, x)
			if ok {
				again, fine := impl.RowsAdd(got, under, x)
				if !fine || !sameRows(again, got) {
					t.Fatalf("again: RowsAdd(%v, %v, %v) is %v, %v", got, under, x, again, fine)
				}
				if other, fine := impl.RowsAdd(got, under, impl.Sample{T: x.T, V: x.V + 1}); fine || !sameRows(other, got) {
					t.Fatalf("another number: RowsAdd(%v, %v, %v) is %v, %v", got, under, x, other, fine)
				}
			}
			list = got
		}
	}
}

func TestP22RowsAndSamplesThatAreTooMany(t *testing.T) {
	ten := manyRows(impl.RowMax, 2)
	for _, x := range (samples{{T: 0, V: 0}, {T: 1, V: 1}, {T: 0, V: 1}, {T: 5, V: 5}}) {
		for _, text := range []string{"{a=a}", "{a=j}", "{a=k}", "{a=aa}", "{zz=a}"} {
			list, _ := labelsIn(text)
			if _, ok := checkAdd(t, ten, list, x); ok != (len(text) == 5 && text < "{a=k}" && x != impl.Sample{T: 0, V: 1}) {
				t.Errorf("%s, %v: %v", text, x, ok)
			}
		}
	}
	nine := ten[:9]
	if got, ok := checkAdd(t, nine, labelsOf("a", "aa"), impl.Sample{T: 1, V: 1}); !ok || len(got) != 10 || got[1].Labels[0].Word != "aa" {
		t.Error("the tenth row")
	}
	full := rows{row("{a=x}", upTo(1, impl.PointMax, 1)...), row("{b=x}", 5)}
	for _, at := range []int{0, 1001, 5000} {
		if _, ok := checkAdd(t, full, labelsOf("a", "x"), impl.Sample{T: at, V: at}); ok {
			t.Errorf("a sample more, at %d", at)
		}
	}
	if _, ok := checkAdd(t, full, labelsOf("a", "x"), impl.Sample{T: 1000, V: 1000}); !ok {
		t.Error("one that is there")
	}
	less := rows{row("{a=x}", upTo(1, impl.PointMax-1, 1)...)}
	if got, ok := checkAdd(t, less, labelsOf("a", "x"), impl.Sample{T: 1000, V: 1}); !ok || len(got[0].List) != impl.PointMax {
		t.Error("the last sample")
	}
}

func TestP22EdgesOfSamples(t *testing.T) {
	list := rows{row("{a=x}", 5)}
	for _, x := range (samples{{T: 0, V: 0}, {T: impl.TimeMax, V: impl.ValueMax}}) {
		if _, ok := checkAdd(t, list, labelsOf("a", "x"), x); !ok {
			t.Errorf("RowsAdd of %v", x)
		}
		if _, ok := checkAdd(t, nil, labelsOf("a", "x"), x); !ok {
			t.Errorf("RowsAdd of %v to no rows", x)
		}
	}
	wrong := samples{{T: -1, V: 0}, {T: impl.TimeMax + 1, V: 0}, {T: 5, V: -1}, {T: 5, V: impl.ValueMax + 1}}
	for _, n := range farNumbers {
		wrong = append(wrong, impl.Sample{T: n, V: 5})
		if n != math.MaxInt32 {
			wrong = append(wrong, impl.Sample{T: 6, V: n})
		}
	}
	for _, x := range wrong {
		if got, ok := impl.RowsAdd(list, labelsOf("a", "x"), x); ok || got != nil {
			t.Errorf("RowsAdd of %v is %v, %v", x, got, ok)
		}
	}
	for what, under := range wrongLabels {
		if got, ok := impl.RowsAdd(list, under, impl.Sample{T: 6, V: 6}); ok || got != nil {
			t.Errorf("labels, %s: %v, %v", what, got, ok)
		}
	}
	for what, wrong := range wrongRows() {
		if got, ok := impl.RowsAdd(wrong, labelsOf("a", "x"), impl.Sample{T: 6, V: 6}); ok || got != nil {
			t.Errorf("rows, %s: %v, %v", what, got, ok)
		}
	}
}

// checkSplit holds RowsAsk and RowsDrop against a plain table, and against each other.
func checkSplit(t *testing.T, list rows, rules matches, from, to int) (rows, rows) {
	t.Helper()
	asked, left := impl.RowsAsk(list, rules, from, to), impl.RowsDrop(list, rules, from, to)
	wantAsked, wantLeft := plainOf(list).split(rules, from, to)
	if !sameRows(asked, wantAsked) {
		t.Fatalf("RowsAsk(%v, %v, %d, %d) is %v, not %v", list, rules, from, to, asked, wantAsked)
	}
	if !sameRows(left, wantLeft) {
		t.Fatalf("RowsDrop(%v, %v, %d, %d) is %v, not %v", list, rules, from, to, left, wantLeft)
	}
	if again := impl.RowsAsk(asked, rules, from, to); !sameRows(again, asked) {
		t.Fatalf("RowsAsk again is %v, not %v", again, asked)
	}
	if again := impl.RowsDrop(left, rules, from, to); !sameRows(again, left) {
		t.Fatalf("RowsDrop again is %v, not %v", again, left)
	}
	if impl.RowsAsk(left, rules, from, to) != nil || impl.RowsDrop(asked, rules, from, to) != nil {
		t.Fatalf("%v and %v have something in both", asked, left)
	}
	if all, ok := impl.RowsJoin(asked, left); !ok || !sameRows(all, list) {
		t.Fatalf("%v and %v are together %v, %v, not %v", asked, left, all, ok, list)
	}
	return asked, left
}

func TestP23P24WhatIsAskedForAndWhatIsLeft(t *testing.T) {
	d := dice(23)
	for range 4000 {
		list, rules := someRows(&d, impl.RowMax, 10, 5), someRules(&d, 2)
		checkSplit(t, list, rules, d.below(14)-2, d.below(14)-2)
	}
	for what, list := range goodRows() {
		all, left := checkSplit(t, list, nil, 0, impl.TimeMax+1)
		if !sameRows(all, list) || left != nil {
			t.Errorf("%s: of all it is not all", what)
		}
	}
}

func TestP23P24EdgesOfTime(t *testing.T) {
	list := rows{row("{a=x}", 0, 5, impl.TimeMax), row("{a=x,b=y}", 5), row("{b=y}", 6)}
	cases := []struct {
		rules    string
		from, to int
		asked    string
		left     string
	}{
		{"[]", 0, impl.TimeMax + 1, "{a=x}0,5,9999{a=x,b=y}5{b=y}6", ""},
		{"[]", math.MinInt, math.MaxInt, "{a=x}0,5,9999{a=x,b=y}5{b=y}6", ""},
		{"[]", 0, impl.TimeMax, "{a=x}0,5{a=x,b=y}5{b=y}6", "{a=x}9999"},
		{"[]", 1, impl.TimeMax + 1, "{a=x}5,9999{a=x,b=y}5{b=y}6", "{a=x}0"},
		{"[]", 5, 6, "{a=x}5{a=x,b=y}5", "{a=x}0,9999{b=y}6"},
		{"[]", 6, 7, "{b=y}6", "{a=x}0,5,9999{a=x,b=y}5"},
		{"[]", 5, 5, "", "{a=x}0,5,9999{a=x,b=y}5{b=y}6"},
		{"[]", 6, 5, "", "{a=x}0,5,9999{a=x,b=y}5{b=y}6"},
		{"[]", math.MaxInt, math.MinInt, "", "{a=x}0,5,9999{a=x,b=y}5{b=y}6"},
		{"[]", -5, 0, "", "{a=x}0,5,9999{a=x,b=y}5{b=y}6"},
		{"[]", impl.TimeMax + 1, math.MaxInt, "", "{a=x}0,5,9999{a=x,b=y}5{b=y}6"},
		{"[b=]", 0, 6, "{a=x}0,5", "{a=x}9999{a=x,b=y}5{b=y}6"},
		{"[b^]", 0, 6, "{a=x}0,5{a=x,b=y}5", "{a=x}9999{b=y}6"},
		{"[b=y]", 0, 9999, "{a=x,b=y}5{b=y}6", "{a=x}0,5,9999"},
		{"[a=x,b=y]", 0, 9999, "{a=x,b=y}5", "{a=x}0,5,9999{b=y}6"},
		{"[c!]", 0, 9999, "", "{a=x}0,5,9999{a=x,b=y}5{b=y}6"},
	}
	for _, c := range cases {
		rules, _ := impl.MatchesGet(c.rules)
		asked, left := checkSplit(t, list, rules, c.from, c.to)
		if rowsShort(asked) != c.asked || rowsShort(left) != c.left {
			t.Errorf("%s from %d to %d: %s and %s, not %s and %s", c.rules, c.from, c.to, rowsShort(asked), rowsShort(left), c.asked, c.left)
		}
	}
}

// rowsShort is rows without their numbers, to be read in a table of cases.
func rowsShort(list rows) string {
	out := ""
	for _, row := range list {
		var times []string
		for _, x := range row.List {
			times = append(times, fmt.Sprint(x.T))
		}
		out += labelsText(row.Labels) + strings.Join(times, ",")
	}
	return out
}

func TestP23P24WhatIsNotOk(t *testing.T) {
	for what, wrong := range wrongRows() {
		for _, to := range []int{0, 3, impl.TimeMax + 1} {
			if impl.RowsAsk(wrong, nil, 0, to) != nil || impl.RowsDrop(wrong, nil, 0, to) != nil {
				t.Errorf("%s: something is told, to %d", what, to)
			}
		}
	}
	list := rows{row("{a=x}", 1, 2), row("{b=x}", 1, 2)}
	for what, wrong := range wrongMatches {
		for _, to := range []int{0, 2, impl.TimeMax + 1} {
			if impl.RowsAsk(list, wrong, 0, to) != nil || impl.RowsDrop(list, wrong, 0, to) != nil {
				t.Errorf("matches, %s: something is told, to %d", what, to)
			}
		}
	}
	four := slices.Repeat(matches{{Kind: impl.MatchIs, Name: "a", Word: "x"}}, impl.MatchMax)
	if asked, left := checkSplit(t, list, four, 2, 9); rowsShort(asked) != "{a=x}2" || rowsShort(left) != "{a=x}1{b=x}1,2" {
		t.Errorf("four matches: %v and %v", asked, left)
	}
	for _, none := range []rows{nil, {}} {
		if impl.RowsAsk(none, nil, 0, 9) != nil || impl.RowsDrop(none, nil, 0, 9) != nil {
			t.Error("of no rows there are some")
		}
	}
}

func checkRowsJoin(t *testing.T, a, b rows) bool {
	t.Helper()
	p, want := plainOf(a), true
	for _, row := range b {
		for _, x := range row.List {
			want = p.put(labelsText(row.Labels), x.T, x.V) && want
		}
	}
	var all rows
	if want = want && p.fits(); want {
		all = p.rows()
	}
	got, ok := impl.RowsJoin(a, b)
	if ok != want || !sameRows(got, all) {
		t.Fatalf("RowsJoin(%v, %v) is %v, %v, not %v, %v", a, b, got, ok, all, want)
	}
	if back, fine := impl.RowsJoin(b, a); fine != ok || !sameRows(back, got) {
		t.Fatalf("RowsJoin(%v, %v) the other way round is %v, %v", a, b, back, fine)
	}
	return ok
}

func TestP25RowsOfBoth(t *testing.T) {
	d := dice(25)
	joined := 0
	for range 4000 {
		most, times, numbers := 1+d.below(impl.RowMax), 1+d.below(10), 1+d.below(3)
		a, b := someRows(&d, most, times, numbers), someRows(&d, most, times, numbers)
		if checkRowsJoin(t, a, b) {
			joined++
		}
		if !checkRowsJoin(t, a, a) || !checkRowsJoin(t, a, nil) {
			t.Fatalf("%v with itself, or with nothing", a)
		}
	}
	if joined < 500 || joined > 3500 {
		t.Errorf("%d pairs were joined", joined)
	}
}

func TestP25TooMany(t *testing.T) {
	cases := []struct {
		what string
		a, b rows
		want bool
	}{
		{"five and five rows", manyRows(5, 3), manyRows(10, 3)[5:], true},
		{"six and five rows", manyRows(6, 3), manyRows(11, 3)[6:], false},
		{"ten and the same", manyRows(10, 3), manyRows(10, 3), true},
		{"ten and one more", manyRows(10, 3), rows{row("{b=a}", 1)}, false},
		{"1000 samples in two", rows{row("{a=x}", upTo(0, 500, 2)...)}, rows{row("{a=x}", upTo(1, 500, 2)...)}, true},
		{"1001 samples in two", rows{row("{a=x}", upTo(0, 500, 2)...)}, rows{row("{a=x}", upTo(1, 501, 2)...)}, false},
		{"1000 and some of them", rows{row("{a=x}", upTo(0, 1000, 1)...)}, rows{row("{a=x}", upTo(500, 500, 1)...)}, true},
		{"two numbers", rows{row("{a=x}", 1, 2)}, rows{{Labels: labelsOf("a", "x"), List: samples{{T: 2, V: 3}}}}, false},
		{"two numbers in the last", rows{row("{a=x}", 1), row("{b=x}", 1, 2)}, rows{row("{a=x}", 2), {Labels: labelsOf("b", "x"), List: samples{{T: 2, V: 3}}}}, false},
		{"two numbers of other labels", rows{row("{a=x}", 1, 2)}, rows{{Labels: labelsOf("a", "y"), List: samples{{T: 2, V: 3}}}}, true},
		{"beginnings of longer ones", rows{row("{a=x,b=x}", 1), row("{aa=x}", 1)}, rows{row("{a=x}", 1), row("{a=x,b=x,c=x}", 1), row("{a=xx}", 1)}, true},
		{"nothing and nothing", nil, rows{}, true},
	}
	for _, c := range cases {
		if got := checkRowsJoin(t, c.a, c.b); got != c.want {
			t.Errorf("%s: %v", c.what, got)
		}
	}
	for what, wrong := range wrongRows() {
		for _, good := range []rows{nil, {row("{a=x}", 1)}} {
			for _, pair := range [][2]rows{{good, wrong}, {wrong, good}, {wrong, wrong}} {
				if got, ok := impl.RowsJoin(pair[0], pair[1]); ok || got != nil {
					t.Errorf("%s: %v, %v", what, got, ok)
				}
			}
		}
	}
}

// linesOf is what RowsPut must write, in pieces of so many samples.
func linesOf(list rows, most int) string {
	out := ""
	for _, row := range list {
		var parts []string
		for piece := range slices.Chunk(row.List, most) {
			parts = append(parts, fmt.Sprintf("%x", packed(pieceFigures(piece))))
		}
		out += labelsText(row.Labels) + " " + strings.Join(parts, ",") + "\n"
	}
	return out
}

func checkLines(t *testing.T, list rows) string {
	t.Helper()
	text := impl.RowsPut(list)
	if want := linesOf(list, impl.PieceMax); text != want {
		t.Fatalf("RowsPut(%v) is\n%s, not\n%s", list, text, want)
	}
	if back, ok := impl.RowsGet(text); !ok || !sameRows(back, list) {
		t.Fatalf("RowsGet(%q) is %v, %v", text, back, ok)
	}
	return text
}

func TestP26RowsAreReadBack(t *testing.T) {
	d := dice(26)
	for range 400 {
		list := someRows(&d, impl.RowMax, 20, 1000)
		if len(list) > 0 {
			list[d.below(len(list))].List = someSamples(&d, 1+d.below(300))
		}
		checkLines(t, list)
	}
	for _, list := range goodRows() {
		checkLines(t, list)
	}
	for n := 1; n <= impl.PointMax; n += 1 + d.below(2)*29 {
		text := checkLines(t, rows{row("{a=x}", upTo(0, n, 3)...)})
		if got, want := strings.Count(text, ","), (n-1)/impl.PieceMax; got != want {
			t.Errorf("%d samples have %d commas, not %d", n, got, want)
		}
	}
}

func TestP26PiecesThatAreFull(t *testing.T) {
	for n, sizes := range map[int]string{1: "7", 59: "22", 60: "23", 61: "23,7", 119: "23,22", 120: "23,23", 121: "23,23,7"} {
		text := checkLines(t, rows{{Labels: labelsOf("a", "x"), List: steps(0, 5, upTo(1, n-1, 0)...)}})
		var got []string
		for _, part := range strings.Split(strings.Fields(text)[1], ",") {
			got = append(got, fmt.Sprint(len(part)/2))
		}
		if strings.Join(got, ",") != sizes {
			t.Errorf("%d samples in pieces of %v bytes, not %s", n, got, sizes)
		}
	}
}

func TestP26RowsThatAreNotOk(t *testing.T) {
	for what, wrong := range wrongRows() {
		if got := impl.RowsPut(wrong); got != "" {
			t.Errorf("%s: %q", what, got)
		}
	}
	for _, none := range []rows{nil, {}} {
		if impl.RowsPut(none) != "" {
			t.Error("no rows are put as something")
		}
	}
	if got, ok := impl.RowsGet(""); !ok || got != nil {
		t.Error("the empty text is not no rows")
	}
}

// hexOf is a piece in figures.
func hexOf(list samples) string {
	return fmt.Sprintf("%x", packed(pieceFigures(list)))
}

func TestP26LinesThatAreNone(t *testing.T) {
	list := steps(0, 5, upTo(1, 120, 0)...)
	one, two := hexOf(steps(10, 5)), hexOf(steps(20, 5))
	full, next := hexOf(list[:60]), hexOf(list[60:120])
	good := "{a=x} " + one + "\n"
	for _, text := range []string{good, good + "{b=x} " + one + "\n", "{a=x} " + full + "," + next + "\n", "{a=x} " + full + "," + hexOf(list[60:61]) + "\n"} {
		if got, ok := impl.RowsGet(text); !ok || impl.RowsPut(got) != text {
			t.Fatalf("%q is not read", text)
		}
	}
	wrong := map[string]string{
		"a piece of 59, not the last":   "{a=x} " + hexOf(list[:59]) + "," + hexOf(list[59:61]) + "\n",
		"a piece of 1, not the last":    "{a=x} " + one + "," + two + "\n",
		"a lesser piece in the midst":   "{a=x} " + full + "," + hexOf(list[60:119]) + "," + hexOf(list[119:]) + "\n",
		"a full piece behind a lesser":  "{a=x} " + hexOf(list[:1]) + "," + hexOf(list[1:61]) + "\n",
		"a piece twice":                 "{a=x} " + full + "," + full + "\n",
		"pieces the other way round":    "{a=x} " + next + "," + full + "\n",
		"no newline":                    "{a=x} " + one,
		"two newlines":                  good + "\n",
		"a newline ahead":               "\n" + good,
		"only a newline":                "\n",
		"a newline between":             good + "\n{b=x} " + one + "\n",
		"no newline between":            "{a=x} " + one + "{b=x} " + one + "\n",
		"no newline at the last":        good + "{b=x} " + one,
		"a return":                      "{a=x} " + one + "\r\n",
		"a newline instead of a blank":  "{a=x}\n" + one + "\n",
		"a newline instead of a comma":  "{a=x} " + full + "\n" + next + "\n",
		"no blank":                      "{a=x}" + one + "\n",
		"two blanks":                    "{a=x}  " + one + "\n",
		"a blank ahead":                 " {a=x} " + one + "\n",
		"a blank at the end":            "{a=x} " + one + " \n",
		"a tab":                         "{a=x}\t" + one + "\n",
		"a comma too many":              "{a=x} " + one + ",\n",
		"a comma ahead":                 "{a=x} ," + one + "\n",
		"two commas":                    "{a=x} " + full + ",," + next + "\n",
		"a comma and a blank":           "{a=x} " + full + ", " + next + "\n",
		"no comma":                      "{a=x} " + full + next + "\n",
		"no pieces":                     "{a=x} \n",
		"no pieces, no blank":           "{a=x}\n",
		"no labels":                     " " + one + "\n",
		"no labels, no blank":           one + "\n",
		"no labels in brackets":         "{} " + one + "\n",
		"labels that are none":          "{a=} " + one + "\n",
		"labels out of order":           "{b=x,a=x} " + one + "\n",
		"matches":                       "[a=x] " + one + "\n",
		"great figures":                 "{a=x} " + strings.ToUpper(hexOf(samples{{T: 10, V: 171}})) + "\n",
		"figures that are none":         "{a=x} " + one[:len(one)-1] + "g\n",
		"a figure less":                 "{a=x} " + one[1:] + "\n",
		"a byte more":                   "{a=x} " + one + "00\n",
		"a piece that is none":          "{a=x} 00\n",
		"bits that fill the last byte":  "{a=x} " + one[:len(one)-1] + "1\n",
		"the last line has no samples":  good + "{b=x} \n",
		"rows out of order":             "{b=x} " + one + "\n" + good,
		"the longer labels ahead":       "{a=x,b=x} " + one + "\n" + good,
		"labels twice":                  good + good,
		"labels twice, at another time": good + "{a=x} " + two + "\n",
		"eleven rows":                   linesOf(manyRows(11, 1), 60),
		"1001 samples":                  linesOf(manyRows(1, 1001), 60),
		"pieces of 61":                  linesOf(manyRows(1, 61), 61),
	}
	for what, text := range wrong {
		if got, ok := impl.RowsGet(text); ok || got != nil {
			t.Errorf("%s: RowsGet(%q) is %v, %v", what, text, got, ok)
		}
	}
}

func TestP26WhatIsReadIsPutJustSo(t *testing.T) {
	d := dice(2626)
	read := 0
	for range 20000 {
		text := linesOf(someRows(&d, 3, 4, 20), impl.PieceMax)
		text = turned(&d, text, "{}=,ab 0123456789abcdef\n")
		got, ok := impl.RowsGet(text)
		if ok {
			read++
		}
		if ok && (impl.RowsPut(got) != text || linesOf(got, impl.PieceMax) != text || !impl.RowsOk(got)) || !ok && got != nil {
			t.Fatalf("RowsGet(%q) is %v, %v", text, got, ok)
		}
	}
	if read < 2000 || read > 15000 {
		t.Errorf("%d texts were read", read)
	}
}

func TestRowsLeaveTheirArguments(t *testing.T) {
	d := dice(5)
	for i := range 60 {
		a, b := roomy(someRows(&d, 6, 6, 2)), roomy(someRows(&d, 3, 3, 1))
		under, rules := roomy(someLabels(&d)), roomy(someRules(&d, 1))
		if i == 0 {
			a, under = roomy(manyRows(impl.RowMax, 3)), roomy(labelsOf("b", "x"))
		}
		h := hand(a, b, under, rules)
		impl.RowsOk(a)
		added, _ := impl.RowsAdd(a, under, impl.Sample{T: 3, V: 3})
		h.check(t, "RowsAdd", added)
		if len(a) > 0 {
			more, _ := impl.RowsAdd(a, a[0].Labels, impl.Sample{T: 999, V: 3})
			h.check(t, "RowsAdd of a sample more", more)
			other, _ := impl.RowsAdd(a, a[0].Labels, impl.Sample{T: a[0].List[0].T, V: 4242})
			h.check(t, "RowsAdd of another number", other)
		}
		h.check(t, "RowsAsk", impl.RowsAsk(a, rules, 0, 4))
		h.check(t, "RowsAsk of all", impl.RowsAsk(a, nil, 0, impl.TimeMax+1))
		h.check(t, "RowsDrop", impl.RowsDrop(a, rules, 2, 4))
		h.check(t, "RowsDrop of nothing", impl.RowsDrop(a, rules, 4, 2))
		joined, _ := impl.RowsJoin(a, b)
		h.check(t, "RowsJoin", joined)
		alone, _ := impl.RowsJoin(nil, a)
		h.check(t, "RowsJoin with nothing", alone)
		itself, _ := impl.RowsJoin(a, a)
		h.check(t, "RowsJoin with itself", itself)
		text := impl.RowsPut(a)
		h.check(t, "RowsPut", text)
		got, _ := impl.RowsGet(text)
		hand(text).check(t, "RowsGet", got)
	}
}

func TestRowsKeepNothing(t *testing.T) {
	list := rows{row("{a=x}", 1, 2), row("{b=x}", 3)}
	kept := copied(list)
	for range 3 {
		joined, ok := impl.RowsJoin(list, list)
		if !ok || !sameRows(joined, kept) {
			t.Fatalf("joined again: %v, %v", joined, ok)
		}
		spoil(joined[0].List, impl.Sample{T: 7, V: 7})
		spoil(joined, impl.Row{})
	}
	if !sameRows(list, kept) {
		t.Errorf("the rows are %v now", list)
	}
}
