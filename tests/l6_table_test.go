package tests

import (
	"fmt"
	"maps"
	"math"
	"slices"
	"testing"

	"loop.example/almanack/impl"
)

type entries = []impl.Entry

// plainTable is a table as plain rows and two times.
type plainTable struct {
	rows        plainRows
	high, floor int
}

func plainTableOf(x impl.Table) plainTable {
	return plainTable{rows: plainOf(x.Rows), high: x.High, floor: x.Floor}
}

func (p plainTable) table() impl.Table {
	return impl.Table{Rows: p.rows.rows(), High: p.high, Floor: p.floor}
}

// write is the code of one entry, which is written if that is 0.
func (p *plainTable) write(e impl.Entry) int {
	text := labelsText(e.Labels)
	if _, ok := labelsIn(text); !ok {
		return 5
	}
	if e.T < 0 || e.T > 9999 || e.V < 0 || e.V > 2147483647 {
		return 1
	}
	if e.T < p.floor || e.T < p.high-300 {
		return 2
	}
	if !p.rows.put(text, e.T, e.V) {
		return 3
	}
	if !p.rows.fits() {
		return 4
	}
	p.high = max(p.high, e.T)
	return 0
}

func (p *plainTable) writeAll(batch entries) int {
	if len(batch) == 0 || len(batch) > 6 {
		return 1
	}
	for _, e := range batch {
		if code := p.write(e); code != 0 {
			return code
		}
	}
	return 0
}

func sameTable(a, b impl.Table) bool {
	return sameRows(a.Rows, b.Rows) && a.High == b.High && a.Floor == b.Floor
}

// checkTableAdd holds TableAdd against a plain table.
func checkTableAdd(t *testing.T, x impl.Table, batch entries) (impl.Table, int) {
	t.Helper()
	p := plainTableOf(x)
	want := p.writeAll(batch)
	if want != 0 {
		p = plainTableOf(x)
	}
	got, code := impl.TableAdd(x, batch)
	if code != want || !sameTable(got, p.table()) {
		t.Fatalf("TableAdd(%v, %v) is %v, %d, not %v, %d", x, batch, got, code, p.table(), want)
	}
	if !impl.TableOk(got) {
		t.Fatalf("TableAdd(%v, %v) is %v, which is not ok", x, batch, got)
	}
	return got, code
}

// entry makes one entry of labels' text; text that is no labels is one that is not ok.
func entry(text string, at, v int) impl.Entry {
	list, _ := labelsIn(text)
	return impl.Entry{Labels: list, T: at, V: v}
}

// someEntry makes one that is often near the edge of what is written.
func someEntry(d *dice, x impl.Table, kinds int) impl.Entry {
	few := fewLabels()
	e := impl.Entry{Labels: few[d.below(kinds)], V: d.below(2)}
	switch d.below(8) {
	case 0:
		e.T = x.Floor + d.below(3) - 1
	case 1:
		e.T = x.High - impl.Window + d.below(3) - 1
	case 2:
		e.T = x.High + 1 + d.below(400)
	case 3:
		e.T = x.High
	default:
		e.T = max(x.Floor, x.High-impl.Window) + d.below(8)*40
	}
	if e.T < 0 && d.below(20) > 0 {
		e.T = d.below(4)
	}
	if d.below(40) == 0 {
		e.Labels = wrongLabels["out of order"]
	}
	if d.below(60) == 0 {
		e.V = -1
	}
	return e
}

// someTable makes one by writing, forgetting and dropping.
func someTable(d *dice, kinds int) impl.Table {
	x := impl.TableNew()
	for range 1 + d.below(12) {
		var batch entries
		for range 1 + d.below(impl.BatchMax) {
			batch = append(batch, someEntry(d, x, kinds))
		}
		x, _ = impl.TableAdd(x, batch)
		if d.below(6) == 0 {
			x = impl.TableKeep(x, d.below(600))
		}
		if d.below(8) == 0 {
			x = impl.TableDrop(x, someRules(d, 1), x.High-d.below(300), x.High)
		}
	}
	return x
}

func goodTables() map[string]impl.Table {
	return map[string]impl.Table{
		"new":                       impl.TableNew(),
		"nothing":                   {},
		"High 0":                    {High: 0},
		"no rows, High at its end":  {High: impl.TimeMax},
		"no rows, Floor at its end": {High: impl.TimeMax, Floor: 9900},
		"Floor at High":             {High: 500, Floor: 500},
		"a sample at both":          {Rows: rows{row("{a=x}", 500)}, High: 500, Floor: 500},
		"a sample at High":          {Rows: rows{row("{a=x}", 500)}, High: 500},
		"a sample at Floor":         {Rows: rows{row("{a=x}", 400)}, High: 500, Floor: 400},
		"a sample at 0":             {Rows: rows{row("{a=x}", 0)}, High: 0},
		"a sample at the end":       {Rows: rows{row("{a=x}", impl.TimeMax)}, High: impl.TimeMax, Floor: 9900},
		"older than the window":     {Rows: rows{row("{a=x}", 0)}, High: impl.TimeMax},
		"ten rows":                  {Rows: manyRows(impl.RowMax, 3), High: 2},
		"a thousand samples":        {Rows: manyRows(1, impl.PointMax), High: 999},
	}
}

func wrongTables() map[string]impl.Table {
	out := map[string]impl.Table{
		"High below -1":                    {High: -2},
		"High too great":                   {High: impl.TimeMax + 1},
		"a sample later":                   {Rows: rows{row("{a=x}", 501)}, High: 500},
		"a sample later, the last":         {Rows: rows{row("{a=x}", 1), row("{b=x}", 1, 501)}, High: 500},
		"a sample, High -1":                {Rows: rows{row("{a=x}", 0)}, High: -1},
		"Floor below 0":                    {High: 500, Floor: -100},
		"Floor too great":                  {High: impl.TimeMax, Floor: 10000},
		"Floor not divided":                {High: 500, Floor: 50},
		"Floor one more":                   {High: 500, Floor: 101},
		"Floor one less":                   {High: 500, Floor: 99},
		"Floor above High":                 {High: 499, Floor: 500},
		"Floor above -1":                   {High: -1, Floor: 100},
		"a sample ahead of Floor":          {Rows: rows{row("{a=x}", 399)}, High: 500, Floor: 400},
		"a sample ahead of Floor, a later": {Rows: rows{row("{a=x}", 450), row("{b=x}", 399, 450)}, High: 500, Floor: 400},
	}
	for what, list := range wrongRows() {
		out["rows, "+what] = impl.Table{Rows: list, High: impl.TimeMax}
	}
	for _, n := range farNumbers {
		out[fmt.Sprint("High ", n)] = impl.Table{High: n}
		out[fmt.Sprint("Floor ", n)] = impl.Table{High: impl.TimeMax, Floor: n}
		out[fmt.Sprint("both ", n)] = impl.Table{High: n, Floor: n}
		out[fmt.Sprint("Floor in bases ", n)] = impl.Table{High: impl.TimeMax, Floor: n / 100 * 100}
	}
	return out
}

func TestTableOk(t *testing.T) {
	for what, x := range goodTables() {
		if !impl.TableOk(x) {
			t.Errorf("%s: TableOk is false", what)
		}
	}
	for what, x := range wrongTables() {
		if impl.TableOk(x) {
			t.Errorf("%s: TableOk is true", what)
		}
	}
	for floor := -1; floor <= impl.TimeMax+1; floor++ {
		want := floor%100 == 0 && floor <= 9900
		if got := impl.TableOk(impl.Table{High: impl.TimeMax, Floor: floor}); got != want {
			t.Errorf("Floor %d: TableOk is %v", floor, got)
		}
	}
}

func TestTableNew(t *testing.T) {
	if x := impl.TableNew(); x.Rows != nil || x.High != -1 || x.Floor != 0 {
		t.Errorf("TableNew is %v", x)
	}
}

func TestP27AllEntriesAreWrittenOrNone(t *testing.T) {
	d := dice(27)
	codes := map[int]int{}
	for range 400 {
		x := impl.TableNew()
		for range 30 {
			var batch entries
			for range 1 + d.below(impl.BatchMax) {
				batch = append(batch, someEntry(&d, x, 14))
			}
			got, code := checkTableAdd(t, x, batch)
			codes[code]++
			checkThere(t, x, got, batch, code)
			x = got
			if d.below(10) == 0 {
				x = impl.TableKeep(x, d.below(500))
			}
		}
	}
	for code := range 6 {
		if codes[code] < 50 {
			t.Errorf("the code %d came %d times", code, codes[code])
		}
	}
}

// checkThere is what the promise says, in its own words.
func checkThere(t *testing.T, x, got impl.Table, batch entries, code int) {
	t.Helper()
	if code != impl.AddFine {
		if !sameTable(got, x) {
			t.Fatalf("with the code %d it is %v, not %v", code, got, x)
		}
		return
	}
	high := x.High
	for _, e := range batch {
		high = max(high, e.T)
		there := impl.TableAsk(got, nil, e.T, e.T+1)
		if plainOf(there)[labelsText(e.Labels)][e.T] != e.V {
			t.Fatalf("%v is not there in %v", e, got)
		}
	}
	if got.High != high || got.Floor != x.Floor {
		t.Fatalf("High is %d, Floor %d of %v and %v", got.High, got.Floor, x, batch)
	}
}

func TestP27HowManyEntries(t *testing.T) {
	x := impl.Table{Rows: rows{row("{a=x}", 450)}, High: 500, Floor: 200}
	var batch entries
	for n := range 9 {
		_, code := checkTableAdd(t, x, batch)
		want := impl.AddFine
		if n == 0 || n > 6 {
			want = impl.AddBad
		}
		if code != want {
			t.Errorf("%d entries: the code is %d", n, code)
		}
		batch = append(batch, entry("{a=x}", 480+n, n))
	}
	checkTableAdd(t, x, entries{})
	checkTableAdd(t, impl.TableNew(), nil)
	for _, first := range []impl.Entry{entry("", 500, 1), entry("{a=x}", 100, 1), entry("{a=x}", 450, 1)} {
		seven := append(entries{first}, batch[:6]...)
		if _, code := checkTableAdd(t, x, seven); code != impl.AddBad {
			t.Errorf("seven entries, the first %v: the code is %d", first, code)
		}
	}
}

// codeCase is a table, entries, and the code that they must have.
type codeCase struct {
	what  string
	x     impl.Table
	batch entries
	code  int
}

func checkCodes(t *testing.T, cases []codeCase) {
	t.Helper()
	for _, c := range cases {
		if _, code := checkTableAdd(t, c.x, c.batch); code != c.code {
			t.Errorf("%s: the code is %d, not %d", c.what, code, c.code)
		}
	}
}

func TestP27FirstOfSeveralCodes(t *testing.T) {
	full := impl.Table{Rows: rows{row("{a=x}", upTo(0, impl.PointMax, 1)...)}, High: 999}
	ten := impl.Table{Rows: manyRows(impl.RowMax, 3), High: 800}
	x := impl.Table{Rows: rows{row("{a=x}", 250, 450)}, High: 600, Floor: 200}
	checkCodes(t, []codeCase{
		{"no labels, a wrong time", x, entries{entry("", -1, 1)}, impl.AddLabels},
		{"no labels, a wrong number", x, entries{entry("", 450, -1)}, impl.AddLabels},
		{"no labels, too old", x, entries{entry("", 100, 1)}, impl.AddLabels},
		{"no labels, too many", ten, entries{entry("", 800, 1)}, impl.AddLabels},
		{"a time below 0 is also too old", x, entries{entry("{a=x}", -1, 1)}, impl.AddBad},
		{"a wrong number, too old", x, entries{entry("{a=x}", 100, -1)}, impl.AddBad},
		{"a wrong number, another one there", x, entries{entry("{a=x}", 450, impl.ValueMax+1)}, impl.AddBad},
		{"a wrong number, too many", ten, entries{entry("{b=x}", 800, -1)}, impl.AddBad},
		{"too old, another number there", x, entries{entry("{a=x}", 250, 1)}, impl.AddOld},
		{"too old, the same number there", x, entries{entry("{a=x}", 250, 250)}, impl.AddOld},
		{"too old, rows too many", ten, entries{entry("{b=x}", 499, 1)}, impl.AddOld},
		{"too old, samples too many", full, entries{entry("{a=x}", 698, 1)}, impl.AddOld},
		{"another number, samples too many", full, entries{entry("{a=x}", 800, 1)}, impl.AddOther},
		{"the same number, samples at their most", full, entries{entry("{a=x}", 800, 800)}, impl.AddFine},
		{"the first of two codes", x, entries{entry("{a=x}", 100, 1), entry("", 500, 1)}, impl.AddOld},
		{"the first of two codes, the other way round", x, entries{entry("", 500, 1), entry("{a=x}", 100, 1)}, impl.AddLabels},
		{"a code behind what is fine", x, entries{entry("{a=x}", 500, 1), entry("{a=x}", 450, 1)}, impl.AddOther},
		{"a code at the sixth", x, entries{entry("{a=x}", 500, 1), entry("{a=x}", 501, 1), entry("{a=x}", 502, 1), entry("{a=x}", 503, 1), entry("{a=x}", 504, 1), entry("{a=x}", 505, -1)}, impl.AddBad},
	})
}

func TestP27TheSameNumberAndAnotherOne(t *testing.T) {
	x := impl.Table{Rows: rows{row("{a=x}", 450)}, High: 600}
	checkCodes(t, []codeCase{
		{"the same", x, entries{entry("{a=x}", 450, 450)}, impl.AddFine},
		{"another one", x, entries{entry("{a=x}", 450, 451)}, impl.AddOther},
		{"another one of other labels", x, entries{entry("{a=y}", 450, 451)}, impl.AddFine},
		{"another one of more labels", x, entries{entry("{a=x,b=x}", 450, 451)}, impl.AddFine},
		{"another one at another time", x, entries{entry("{a=x}", 451, 1)}, impl.AddFine},
		{"twice the same in one batch", x, entries{entry("{a=x}", 500, 1), entry("{a=x}", 500, 1)}, impl.AddFine},
		{"two numbers in one batch", x, entries{entry("{a=x}", 500, 1), entry("{a=x}", 500, 2)}, impl.AddOther},
		{"two numbers of two labels in one batch", x, entries{entry("{a=x}", 500, 1), entry("{b=x}", 500, 2)}, impl.AddFine},
		{"0 where there is one", x, entries{entry("{a=x}", 450, 0)}, impl.AddOther},
		{"0 twice", impl.TableNew(), entries{entry("{a=x}", 0, 0), entry("{a=x}", 0, 0)}, impl.AddFine},
		{"1 behind 0", impl.TableNew(), entries{entry("{a=x}", 0, 0), entry("{a=x}", 0, 1)}, impl.AddOther},
	})
}

func TestP27TooMany(t *testing.T) {
	nine, ten := manyRows(9, 3), manyRows(impl.RowMax, 3)
	less := rows{row("{a=x}", upTo(0, impl.PointMax-1, 1)...)}
	full := rows{row("{a=x}", upTo(0, impl.PointMax, 1)...)}
	checkCodes(t, []codeCase{
		{"the tenth row", impl.Table{Rows: nine, High: 2}, entries{entry("{b=x}", 2, 1)}, impl.AddFine},
		{"the tenth row twice", impl.Table{Rows: nine, High: 2}, entries{entry("{b=x}", 2, 1), entry("{b=x}", 3, 1)}, impl.AddFine},
		{"the eleventh row", impl.Table{Rows: ten, High: 2}, entries{entry("{b=x}", 2, 1)}, impl.AddMany},
		{"the tenth and the eleventh", impl.Table{Rows: nine, High: 2}, entries{entry("{b=x}", 2, 1), entry("{c=x}", 2, 1)}, impl.AddMany},
		{"a row that is there", impl.Table{Rows: ten, High: 2}, entries{entry("{a=a}", 3, 1)}, impl.AddFine},
		{"the 1000th sample", impl.Table{Rows: less, High: 999}, entries{entry("{a=x}", 999, 1)}, impl.AddFine},
		{"the 1001st sample", impl.Table{Rows: full, High: 1200}, entries{entry("{a=x}", 1000, 1)}, impl.AddMany},
		{"the 1000th and the 1001st", impl.Table{Rows: less, High: 998}, entries{entry("{a=x}", 999, 1), entry("{a=x}", 1000, 1)}, impl.AddMany},
		{"the 1000th twice", impl.Table{Rows: less, High: 998}, entries{entry("{a=x}", 999, 1), entry("{a=x}", 999, 1)}, impl.AddFine},
		{"one of other labels", impl.Table{Rows: full, High: 1200}, entries{entry("{a=y}", 1000, 1)}, impl.AddFine},
	})
}

func TestP27EntriesThatAreNotOk(t *testing.T) {
	x := impl.Table{Rows: rows{row("{a=x}", 450)}, High: 600}
	for what, wrong := range wrongLabels {
		if got, code := impl.TableAdd(x, entries{{Labels: wrong, T: 600, V: 1}}); code != impl.AddLabels || !sameTable(got, x) {
			t.Errorf("%s: %v, %d", what, got, code)
		}
	}
	for text, good := range goodLabels {
		if _, code := checkTableAdd(t, x, entries{{Labels: good, T: 600, V: 1}}); code != impl.AddFine {
			t.Errorf("%s: %d", text, code)
		}
	}
	for _, n := range farNumbers {
		cases := []codeCase{{"a far time", x, entries{entry("{a=x}", n, 1)}, impl.AddBad}}
		if n != math.MaxInt32 {
			cases = append(cases, codeCase{"a far number", x, entries{entry("{a=x}", 600, n)}, impl.AddBad})
		}
		checkCodes(t, cases)
	}
	checkCodes(t, []codeCase{
		{"the last time", x, entries{entry("{a=x}", impl.TimeMax, 1)}, impl.AddFine},
		{"one more", x, entries{entry("{a=x}", impl.TimeMax+1, 1)}, impl.AddBad},
		{"the greatest number", x, entries{entry("{a=x}", 600, impl.ValueMax)}, impl.AddFine},
		{"one more", x, entries{entry("{a=x}", 600, impl.ValueMax+1)}, impl.AddBad},
		{"0", x, entries{entry("{a=x}", 600, 0)}, impl.AddFine},
		{"one less", x, entries{entry("{a=x}", 600, -1)}, impl.AddBad},
		{"the first time", impl.TableNew(), entries{entry("{a=x}", 0, 1)}, impl.AddFine},
		{"one less", impl.TableNew(), entries{entry("{a=x}", -1, 1)}, impl.AddBad},
		{"any time, if there is none yet", impl.TableNew(), entries{entry("{a=x}", impl.TimeMax, 1)}, impl.AddFine},
	})
}

func TestP27TablesThatAreNotOk(t *testing.T) {
	good := entries{entry("{a=x}", 500, 1)}
	for what, x := range wrongTables() {
		for _, batch := range []entries{good, nil, {entry("", 500, 1)}, {entry("{a=x}", 0, 1)}} {
			if got, code := impl.TableAdd(x, batch); code != impl.AddBad || !sameTable(got, impl.Table{}) {
				t.Errorf("%s: TableAdd is %v, %d", what, got, code)
			}
		}
	}
	for _, x := range goodTables() {
		checkTableAdd(t, x, good)
	}
}

func TestP28EntriesAreWrittenAsOneByOne(t *testing.T) {
	d := dice(28)
	codes := map[int]int{}
	for range 3000 {
		x := someTable(&d, 13)
		var batch entries
		for range 1 + d.below(impl.BatchMax) {
			batch = append(batch, someEntry(&d, x, 13))
		}
		one, want := x, impl.AddFine
		for _, e := range batch {
			if one, want = impl.TableAdd(one, entries{e}); want != impl.AddFine {
				one = x
				break
			}
		}
		got, code := impl.TableAdd(x, batch)
		codes[code]++
		if code != want || !sameTable(got, one) {
			t.Fatalf("TableAdd(%v, %v) is %v, %d; one by one %v, %d", x, batch, got, code, one, want)
		}
	}
	for code := range 6 {
		if codes[code] < 50 {
			t.Errorf("the code %d came %d times", code, codes[code])
		}
	}
}

func TestP28TheLatestTimeGoesOnWithinABatch(t *testing.T) {
	x := impl.Table{Rows: rows{row("{a=x}", 450)}, High: 500}
	checkCodes(t, []codeCase{
		{"the window of what was", x, entries{entry("{a=x}", 200, 1)}, impl.AddFine},
		{"one ahead of it", x, entries{entry("{a=x}", 199, 1)}, impl.AddOld},
		{"the window of what is new", x, entries{entry("{a=x}", 900, 1), entry("{a=x}", 600, 1)}, impl.AddFine},
		{"one ahead of it", x, entries{entry("{a=x}", 900, 1), entry("{a=x}", 599, 1)}, impl.AddOld},
		{"the other way round", x, entries{entry("{a=x}", 599, 1), entry("{a=x}", 900, 1)}, impl.AddFine},
		{"the latest is not the last", x, entries{entry("{a=x}", 900, 1), entry("{a=x}", 700, 1), entry("{a=x}", 599, 1)}, impl.AddOld},
		{"it does not go back", x, entries{entry("{a=x}", 900, 1), entry("{a=x}", 700, 1), entry("{a=x}", 600, 1)}, impl.AddFine},
		{"in steps", x, entries{entry("{a=x}", 600, 1), entry("{a=x}", 700, 1), entry("{a=x}", 400, 1), entry("{a=x}", 800, 1), entry("{a=x}", 499, 1)}, impl.AddOld},
		{"in steps that fit", x, entries{entry("{a=x}", 600, 1), entry("{a=x}", 700, 1), entry("{a=x}", 400, 1), entry("{a=x}", 800, 1), entry("{a=x}", 500, 1)}, impl.AddFine},
		{"of a new table", impl.TableNew(), entries{entry("{a=x}", 301, 1), entry("{b=x}", 0, 1)}, impl.AddOld},
		{"of a new table, as old as may be", impl.TableNew(), entries{entry("{a=x}", 301, 1), entry("{b=x}", 1, 1)}, impl.AddFine},
		{"of a new table, from 0 on", impl.TableNew(), entries{entry("{a=x}", 300, 1), entry("{b=x}", 0, 1)}, impl.AddFine},
	})
	got, _ := impl.TableAdd(x, entries{entry("{a=x}", 900, 1), entry("{a=x}", 700, 1)})
	if got.High != 900 {
		t.Errorf("High is %d", got.High)
	}
	if got, _ := impl.TableAdd(x, entries{entry("{a=x}", 400, 1)}); got.High != 500 {
		t.Errorf("High is %d, though nothing is later", got.High)
	}
}

func TestP29WhatIsTooOld(t *testing.T) {
	d := dice(29)
	for range 1500 {
		x := someTable(&d, 9)
		if x.High < 0 {
			continue
		}
		oldest := max(x.Floor, x.High-300, 0)
		for _, at := range []int{x.High, oldest} {
			if _, code := checkTableAdd(t, x, entries{entry("{zz=z}", at, 1)}); code != impl.AddFine {
				t.Fatalf("an entry at %d: the code is %d of %v", at, code, x)
			}
		}
		if oldest == 0 {
			continue
		}
		if _, code := checkTableAdd(t, x, entries{entry("{zz=z}", oldest-1, 1)}); code != impl.AddOld {
			t.Fatalf("an entry at %d: the code is %d of %v", oldest-1, code, x)
		}
	}
	checkCodes(t, []codeCase{
		{"at Floor", impl.Table{High: 650, Floor: 400}, entries{entry("{a=x}", 400, 1)}, impl.AddFine},
		{"one ahead of it", impl.Table{High: 650, Floor: 400}, entries{entry("{a=x}", 399, 1)}, impl.AddOld},
		{"as old as may be", impl.Table{High: 650, Floor: 300}, entries{entry("{a=x}", 350, 1)}, impl.AddFine},
		{"one earlier", impl.Table{High: 650, Floor: 300}, entries{entry("{a=x}", 349, 1)}, impl.AddOld},
		{"Floor and window are the same", impl.Table{High: 700, Floor: 400}, entries{entry("{a=x}", 400, 1)}, impl.AddFine},
		{"one earlier", impl.Table{High: 700, Floor: 400}, entries{entry("{a=x}", 399, 1)}, impl.AddOld},
		{"Floor at High", impl.Table{High: 700, Floor: 700}, entries{entry("{a=x}", 700, 1)}, impl.AddFine},
		{"one earlier", impl.Table{High: 700, Floor: 700}, entries{entry("{a=x}", 699, 1)}, impl.AddOld},
		{"High at its end", impl.Table{High: impl.TimeMax}, entries{entry("{a=x}", 9699, 1)}, impl.AddFine},
		{"one earlier", impl.Table{High: impl.TimeMax}, entries{entry("{a=x}", 9698, 1)}, impl.AddOld},
	})
}

func checkTableDrop(t *testing.T, x impl.Table, rules matches, from, to int) impl.Table {
	t.Helper()
	got := impl.TableDrop(x, rules, from, to)
	asked, left := plainOf(x.Rows).split(rules, from, to)
	if !sameTable(got, impl.Table{Rows: left, High: x.High, Floor: x.Floor}) || !impl.TableOk(got) {
		t.Fatalf("TableDrop(%v, %v, %d, %d) is %v", x, rules, from, to, got)
	}
	if told := impl.TableAsk(got, rules, from, to); told != nil {
		t.Fatalf("TableDrop(%v, %v, %d, %d) still tells %v", x, rules, from, to, told)
	}
	if told := impl.TableAsk(x, rules, from, to); !sameRows(told, asked) {
		t.Fatalf("TableAsk(%v, %v, %d, %d) is %v", x, rules, from, to, told)
	}
	if again := impl.TableDrop(got, rules, from, to); !sameTable(again, got) {
		t.Fatalf("dropped again it is %v, not %v", again, got)
	}
	return got
}

func TestP30WhatIsDropped(t *testing.T) {
	d := dice(30)
	went := 0
	for range 1500 {
		x, rules := someTable(&d, 12), someRules(&d, 2)
		from := x.Floor - 5 + d.below(max(10, x.High-x.Floor+10))
		if got := checkTableDrop(t, x, rules, from, from+d.below(300)-20); !sameTable(got, x) {
			went++
		}
	}
	if went < 300 {
		t.Errorf("something went %d times", went)
	}
	for what, x := range goodTables() {
		if got := checkTableDrop(t, x, nil, 0, impl.TimeMax+1); got.Rows != nil || got.High != x.High {
			t.Errorf("%s: all that is dropped is %v", what, got)
		}
		checkTableDrop(t, x, nil, math.MinInt, math.MaxInt)
		if got := checkTableDrop(t, x, nil, 500, 500); !sameTable(got, x) {
			t.Errorf("%s: nothing that is dropped is %v", what, got)
		}
		checkTableDrop(t, x, nil, math.MaxInt, math.MinInt)
	}
}

func TestP30EdgesOfTime(t *testing.T) {
	x := impl.Table{Rows: rows{row("{a=x}", 400, 450, 500), row("{b=x}", 450)}, High: 600, Floor: 400}
	cases := []struct {
		from, to int
		left     string
	}{
		{400, 500, "{a=x}500"}, {400, 501, ""}, {401, 500, "{a=x}400,500"}, {450, 451, "{a=x}400,500"}, {450, 450, "{a=x}400,450,500{b=x}450"}, {500, 400, "{a=x}400,450,500{b=x}450"}, {451, 9999, "{a=x}400,450{b=x}450"},
	}
	for _, c := range cases {
		if got := checkTableDrop(t, x, nil, c.from, c.to); rowsShort(got.Rows) != c.left {
			t.Errorf("from %d to %d: %s is left, not %s", c.from, c.to, rowsShort(got.Rows), c.left)
		}
	}
	if got := checkTableDrop(t, x, matches{{Kind: impl.MatchIs, Name: "b", Word: "x"}}, 0, 9999); rowsShort(got.Rows) != "{a=x}400,450,500" {
		t.Errorf("%v is left", got)
	}
	got, code := impl.TableAdd(checkTableDrop(t, x, nil, 0, 9999), entries{entry("{a=x}", 450, 7)})
	if code != impl.AddFine || rowsShort(got.Rows) != "{a=x}450" {
		t.Errorf("what is dropped may be written again: %v, %d", got, code)
	}
}

func TestP30WhatIsNotOk(t *testing.T) {
	x := impl.Table{Rows: rows{row("{a=x}", 400, 450), row("{b=x}", 450)}, High: 600, Floor: 400}
	for what, wrong := range wrongMatches {
		if got := impl.TableDrop(x, wrong, 0, 9999); !sameTable(got, x) {
			t.Errorf("matches, %s: TableDrop is %v", what, got)
		}
		if got := impl.TableAsk(x, wrong, 0, 9999); got != nil {
			t.Errorf("matches, %s: TableAsk is %v", what, got)
		}
	}
	for what, wrong := range wrongTables() {
		for _, rules := range []matches{nil, wrongMatches["five"]} {
			if got := impl.TableDrop(wrong, rules, 0, 0); !sameTable(got, impl.Table{}) {
				t.Errorf("%s: TableDrop is %v", what, got)
			}
			if got := impl.TableAsk(wrong, rules, 0, 9999); got != nil {
				t.Errorf("%s: TableAsk is %v", what, got)
			}
		}
	}
}

func checkTableKeep(t *testing.T, x impl.Table, age int) impl.Table {
	t.Helper()
	floor := x.Floor
	for next := floor + 100; age >= 0 && next <= x.High-age; next += 100 {
		floor = next
	}
	_, left := plainOf(x.Rows).split(nil, 0, floor)
	got := impl.TableKeep(x, age)
	if !sameTable(got, impl.Table{Rows: left, High: x.High, Floor: floor}) || !impl.TableOk(got) {
		t.Fatalf("TableKeep(%v, %d) is %v, not Floor %d and %v", x, age, got, floor, left)
	}
	if told := impl.TableAsk(x, nil, floor, impl.TimeMax+1); !sameRows(told, got.Rows) {
		t.Fatalf("TableKeep(%v, %d) is %v, which is not %v", x, age, got, told)
	}
	if again := impl.TableKeep(got, age); !sameTable(again, got) {
		t.Fatalf("TableKeep(%v, %d) again is %v, not %v", x, age, again, got)
	}
	return got
}

func TestP31WhatIsForgotten(t *testing.T) {
	d := dice(31)
	went := 0
	for range 1500 {
		x := someTable(&d, 12)
		if got := checkTableKeep(t, x, d.below(700)-50); !sameRows(got.Rows, x.Rows) {
			went++
		}
	}
	if went < 200 {
		t.Errorf("something went %d times", went)
	}
	for _, x := range goodTables() {
		for _, age := range append([]int{-2, -1, 0, 1, 99, 100, 101, 499, 500, 501, 9899, 9900, 9998, 9999, 10000}, farNumbers...) {
			checkTableKeep(t, x, age)
		}
	}
}

func TestP31Ages(t *testing.T) {
	list := rows{row("{a=x}", 299, 300, 499, 500, 599, 600), row("{b=x}", 400, 500)}
	cases := []struct {
		high, floor, age int
		want             int
		left             string
	}{
		{600, 0, -1, 0, "{a=x}299,300,499,500,599,600{b=x}400,500"},
		{600, 0, 0, 600, "{a=x}600"},
		{600, 0, 1, 500, "{a=x}500,599,600{b=x}500"},
		{600, 0, 100, 500, "{a=x}500,599,600{b=x}500"},
		{600, 0, 101, 400, "{a=x}499,500,599,600{b=x}400,500"},
		{600, 0, 300, 300, "{a=x}300,499,500,599,600{b=x}400,500"},
		{600, 0, 600, 0, "{a=x}299,300,499,500,599,600{b=x}400,500"},
		{600, 0, 601, 0, "{a=x}299,300,499,500,599,600{b=x}400,500"},
		{600, 200, 500, 200, "{a=x}299,300,499,500,599,600{b=x}400,500"},
		{600, 200, 700, 200, "{a=x}299,300,499,500,599,600{b=x}400,500"},
		{699, 200, 0, 600, "{a=x}600"},
		{700, 200, 0, 700, ""},
		{799, 200, 200, 500, "{a=x}500,599,600{b=x}500"},
	}
	for _, c := range cases {
		got := checkTableKeep(t, impl.Table{Rows: list, High: c.high, Floor: c.floor}, c.age)
		if got.Floor != c.want || rowsShort(got.Rows) != c.left {
			t.Errorf("High %d, Floor %d, age %d: Floor is %d, and %s is left", c.high, c.floor, c.age, got.Floor, rowsShort(got.Rows))
		}
	}
	if got := checkTableKeep(t, impl.TableNew(), 0); !sameTable(got, impl.TableNew()) {
		t.Errorf("a new table is %v", got)
	}
	for what, wrong := range wrongTables() {
		for _, age := range []int{-1, 0, 100} {
			if got := impl.TableKeep(wrong, age); !sameTable(got, impl.Table{}) {
				t.Errorf("%s: TableKeep is %v", what, got)
			}
		}
	}
}

func TestP32WhatIsToldInParts(t *testing.T) {
	d := dice(32)
	for range 1500 {
		x, rules := someTable(&d, 12), someRules(&d, 2)
		from := x.Floor + d.below(max(1, x.High-x.Floor))
		to := from + d.below(300)
		all := impl.TableAsk(x, rules, from, to)
		if want, _ := plainOf(x.Rows).split(rules, from, to); !sameRows(all, want) {
			t.Fatalf("TableAsk(%v, %v, %d, %d) is %v", x, rules, from, to, all)
		}
		at := from + d.below(to-from+1)
		early, late := impl.TableAsk(x, rules, from, at), impl.TableAsk(x, rules, at, to)
		if both, ok := impl.RowsJoin(early, late); !ok || !sameRows(both, all) {
			t.Fatalf("%v up to %d, and from there on, is %v, not %v", x, at, both, all)
		}
	}
	for what, x := range goodTables() {
		if got := impl.TableAsk(x, nil, x.Floor, x.High+1); !sameRows(got, x.Rows) {
			t.Errorf("%s: all is %v", what, got)
		}
		if impl.TableAsk(x, nil, 500, 500) != nil || impl.TableAsk(x, nil, 9999, 0) != nil {
			t.Errorf("%s: something is told of no time", what)
		}
	}
}

func TestTablesLeaveTheirArguments(t *testing.T) {
	d := dice(6)
	tables := append(slices.Collect(maps.Values(goodTables())), someTable(&d, 12), someTable(&d, 12), someTable(&d, 5))
	for _, x := range tables {
		x = roomy(x)
		fine := roomy(entries{entry("{zz=z}", max(0, x.High), 1), entry("{zz=z}", max(0, x.High-1), 1)})
		none := roomy(entries{entry("{zz=z}", max(0, x.High), 1), entry("{zz=z}", max(0, x.High), 2)})
		rules, wrong := roomy(someRules(&d, 1)), roomy(wrongMatches["five"])
		h := hand(x, fine, none, rules, wrong)
		impl.TableOk(x)
		for _, batch := range []entries{fine, none, fine[:1], fine[:0], append(slices.Repeat(fine[:1:1], 6), fine[1])} {
			got, code := impl.TableAdd(x, batch)
			h.check(t, fmt.Sprint("TableAdd with the code ", code), got)
		}
		h.check(t, "TableDrop", impl.TableDrop(x, rules, 0, 450))
		h.check(t, "TableDrop of nothing", impl.TableDrop(x, rules, 1, 1))
		h.check(t, "TableDrop of no matches", impl.TableDrop(x, wrong, 0, 450))
		for _, age := range []int{-1, 0, 100, 10000} {
			h.check(t, "TableKeep", impl.TableKeep(x, age))
		}
		h.check(t, "TableAsk", impl.TableAsk(x, rules, 0, 9999))
		h.check(t, "TableAsk of all", impl.TableAsk(x, nil, 0, 9999))
	}
}
