package tests

import (
	"fmt"
	"math"
	"runtime"
	"slices"
	"strings"
	"testing"
	"time"

	"loop.example/almanack/impl"
)

func adds(batch ...impl.Entry) impl.Event {
	return impl.Event{Kind: impl.WorldAdd, Batch: batch}
}

func drops(rules string, from, to int) impl.Event {
	list, _ := matchesIn(rules)
	return impl.Event{Kind: impl.WorldDrop, List: list, From: from, To: to}
}

func keeps(age int) impl.Event {
	return impl.Event{Kind: impl.WorldKeep, From: age}
}

func packs() impl.Event {
	return impl.Event{Kind: impl.WorldPack}
}

func rises() impl.Event {
	return impl.Event{Kind: impl.WorldRise}
}

func falling(e impl.Event, step, bytes int) impl.Event {
	e.Fall, e.Step, e.Bytes = true, step, bytes
	return e
}

// checkWorldDo holds WorldDo against the plain one, and what the promises say of it.
func checkWorldDo(t *testing.T, w impl.World, e impl.Event) (impl.World, bool) {
	t.Helper()
	want, fine := wantWorld(w, e)
	got, ok := impl.WorldDo(w, e)
	if ok != fine || !sameWorld(got, want) {
		t.Fatalf("WorldDo(%+v, %+v) is %+v, %v, not %+v, %v", w, e, got, ok, want, fine)
	}
	if impl.WorldOk(w) && !impl.WorldOk(got) || !ok && plainWorldOk(w) && !sameWorld(got, w) {
		t.Fatalf("WorldDo(%+v, %+v) is %+v, %v", w, e, got, ok)
	}
	return got, ok
}

// checkSafe holds WorldSafe against the plain one.
func checkSafe(t *testing.T, w impl.World) bool {
	t.Helper()
	got, want := impl.WorldSafe(w), wantSafe(w)
	if got != want {
		t.Fatalf("WorldSafe(%+v) is %v", w, got)
	}
	return got
}

// after is a world behind events that all can be.
func after(t *testing.T, w impl.World, list ...impl.Event) impl.World {
	t.Helper()
	for _, e := range list {
		var ok bool
		if w, ok = checkWorldDo(t, w, e); !ok || !checkSafe(t, w) {
			t.Fatalf("%+v cannot be, or is not safe: %+v", e, w)
		}
	}
	return w
}

// worldOn is a world of a store, all of it written as a list and files.
func worldOn(s impl.Store) impl.World {
	return impl.World{Disk: cutDisk(s, ""), Up: true, Store: s, Table: tableOf(s)}
}

// steady is events that write a sample of two rows at each base.
func steady(from, to int) events {
	var out events
	for at := from; at < to; at += impl.Base {
		out = append(out, adds(entry("{a=x}", at+5, at), entry("{b=y}", at+50, 7)))
	}
	return out
}

// someWorlds is worlds in which this and that happened, all Up.
func someWorlds(t *testing.T) map[string]impl.World {
	t.Helper()
	few := after(t, newWorld(), steady(0, 500)...)
	packed := after(t, few, packs())
	dropped := after(t, packed, drops("[a=x]", 0, 150), adds(entry("{a=x}", 460, 9)))
	many := after(t, newWorld(), steady(0, 700)...)
	return map[string]impl.World{
		"new":              newWorld(),
		"a log alone":      few,
		"packed":           packed,
		"dropped":          dropped,
		"a cut to come":    after(t, dropped, steady(500, 800)...),
		"joined by three":  after(t, many, packs()),
		"joined by nine":   after(t, after(t, many, packs(), drops("[b=y]", 100, 350)), steady(700, 1300)...),
		"forgotten":        after(t, many, packs(), keeps(350), adds(entry("{a=x}", 700, 1))),
		"to be forgotten":  after(t, after(t, many, packs()), steady(700, 1000)...),
		"the list is late": after(t, many, falling(packs(), 3, 0), rises(), adds(entry("{a=x}", 700, 1))),
	}
}

// someEvents is events of each kind, also with codes.
func someEvents(w impl.World) map[string]impl.Event {
	high := max(0, w.Store.Head.High)
	return map[string]impl.Event{
		"add":                     adds(entry("{a=x}", high, 2), entry("{c=z}", high+20, 3)),
		"add of one that is old":  adds(entry("{a=x}", high, 2), entry("{a=x}", high-301, 3)),
		"add of none":             adds(),
		"drop":                    drops("[a=x]", 0, high),
		"drop of all":             drops("[]", 0, 10000),
		"drop without an effect":  drops("[a=nobody]", 0, 10000),
		"drop of wrong times":     drops("[]", 5, 4),
		"keep":                    keeps(250),
		"keep of the last":        keeps(0),
		"keep without an effect":  keeps(9999),
		"keep of a wrong age":     keeps(-1),
		"pack":                    packs(),
		"pack with what it needs": {Kind: impl.WorldPack, Batch: entries{entry("{a=x}", 1, 1)}, List: matches{{Kind: 9}}, From: -5, To: -9, Step: 99, Bytes: -1},
	}
}

func TestWorldNew(t *testing.T) {
	if w := impl.WorldNew(); !sameWorld(w, newWorld()) || !impl.WorldOk(w) || !checkSafe(t, w) {
		t.Errorf("WorldNew is %+v", w)
	}
}

func TestWorldOk(t *testing.T) {
	if !impl.WorldOk(impl.World{}) {
		t.Error("nothing is not ok")
	}
	ok := func(what string, want bool, w impl.World) {
		t.Helper()
		if got := impl.WorldOk(w); got != want || plainWorldOk(w) != want {
			t.Errorf("%s: WorldOk is %v", what, got)
		}
	}
	for what, d := range goodDisks() {
		ok("the disk, "+what, true, impl.World{Disk: d, Up: true, Store: newStore(), Table: impl.TableNew()})
		ok("the disk, down, "+what, true, impl.World{Disk: d, Table: impl.TableNew()})
	}
	for what, d := range wrongDisks() {
		ok("the disk, "+what, false, impl.World{Disk: d, Up: true, Store: newStore(), Table: impl.TableNew()})
		ok("the disk, down, "+what, false, impl.World{Disk: d, Table: impl.TableNew()})
	}
	for what, x := range goodTables() {
		ok("the table, "+what, true, impl.World{Up: true, Store: newStore(), Table: x})
		ok("the table, down, "+what, true, impl.World{Table: x})
	}
	for what, x := range wrongTables() {
		ok("the table, "+what, false, impl.World{Up: true, Store: newStore(), Table: x})
		ok("the table, down, "+what, false, impl.World{Table: x})
	}
	for what, s := range goodStores() {
		ok("the store, "+what, true, impl.World{Up: true, Store: s, Table: impl.TableNew()})
		ok("the store, down, "+what, what == "nothing", impl.World{Store: s, Table: impl.TableNew()})
	}
	for what, s := range wrongStores() {
		ok("the store, "+what, false, impl.World{Up: true, Store: s, Table: impl.TableNew()})
		ok("the store, down, "+what, false, impl.World{Store: s, Table: impl.TableNew()})
	}
	for what, s := range map[string]impl.Store{
		"Next": {Next: 1}, "Fresh": {Fresh: 1}, "High": {Head: impl.Table{High: 1}}, "High -1": newStore(), "Floor": {Head: impl.Table{Floor: 100}},
		"rows": {Head: impl.Table{Rows: rows{row("{a=x}", 0)}}}, "a block": {Held: make(helds, 1)}, "Tombs": {Tombs: make(tombs, 1)},
	} {
		ok("down, with "+what, false, impl.World{Store: s, Table: impl.TableNew()})
	}
	ok("down, with empty lists", true, impl.World{Store: impl.Store{Head: impl.Table{Rows: rows{}}, Held: helds{}, Tombs: tombs{}}})
}

// sizeAt is how many bytes the text of a write has that comes next; 0, if there is none.
func sizeAt(list writes, step int) int {
	if step < 0 || step >= len(list) {
		return 0
	}
	return len(list[step].Text)
}

// someEvent is one that is often near the edge of what can be.
func someEvent(d *dice, w impl.World) impl.Event {
	if !w.Up && d.below(5) > 0 {
		return rises()
	}
	e := impl.Event{Kind: 1 + d.below(4)}
	switch k := d.below(12); {
	case k < 5:
		e = adds(someFineBatch(d, w.Store)...)
	case k < 7:
		e = adds(someBatch(d, w.Store, 10)...)
	case k == 7:
		e.Kind = impl.WorldDrop
		e.List, e.From, e.To = someDrop(d, w.Store)
	case k == 8:
		e = keeps(200 + d.below(3000))
	case k == 9 || k == 10:
		e = packs()
	default:
		e.Kind = d.below(8) - 1
		e.List, e.From, e.To = wrongMatches["five"], d.below(3)-1, d.below(3)-1
	}
	if d.below(3) > 0 {
		return e
	}
	_, list, _, _ := wantChange(w, e)
	step := d.below(len(list) + 1)
	if d.below(8) == 0 {
		step = d.below(len(list)+4) - 1
	}
	size := sizeAt(list, step)
	return falling(e, step, []int{0, size, size - 1, size + 1, d.below(size + 1), -1}[d.below(6)])
}

func TestP61WhatIsToldIsWhatATableWould(t *testing.T) {
	d := dice(61)
	up, down, blocks, dropped := 0, 0, 0, 0
	for range 60 {
		w := newWorld()
		for range 70 {
			w, _ = checkWorldDo(t, w, someEvent(&d, w))
			if !checkSafe(t, w) {
				t.Fatalf("not safe: %+v", w)
			}
			if !w.Up {
				down++
				continue
			}
			up++
			blocks += min(1, len(w.Store.Held))
			dropped += min(1, len(w.Store.Tombs))
			from, to := w.Store.Head.High-d.below(1500), w.Store.Head.High+1-d.below(100)
			rules := someRules(&d, 2)
			if got, want := impl.StoreAsk(w.Store, rules, from, to), impl.TableAsk(w.Table, rules, from, to); !sameRows(got, want) {
				t.Fatalf("StoreAsk(%+v) is %v, not %v", w.Store, got, want)
			}
		}
	}
	if up < 2000 || down < 300 || blocks < 1000 || dropped < 300 {
		t.Errorf("%d up, %d down, %d with blocks, %d with Tombs", up, down, blocks, dropped)
	}
}

// eachFall tells each fall in the midst of an event: at each write, and at each byte of a log's or a file's.
func eachFall(w impl.World, e impl.Event, tell func(e impl.Event)) {
	_, list, _, _ := wantChange(w, e)
	for step := range len(list) + 1 {
		most := sizeAt(list, step) + 1
		if step < len(list) && list[step].Kind != impl.WriteLog && list[step].Kind != impl.WriteFile {
			most = 1
		}
		for bytes := -1; bytes <= most; bytes++ {
			tell(falling(e, step, bytes))
		}
		tell(falling(e, step, sizeAt(list, step)))
		tell(falling(e, step, math.MaxInt))
		tell(falling(e, step, math.MinInt))
	}
}

// riseBehind is a world behind a fall and a rise; both are held against the plain ones.
func riseBehind(t *testing.T, w impl.World, e impl.Event) impl.World {
	t.Helper()
	fallen, ok := checkWorldDo(t, w, e)
	if !ok || fallen.Up || !sameStore(fallen.Store, impl.Store{}) {
		t.Fatalf("behind %+v it is %+v, %v", e, fallen, ok)
	}
	risen, ok := checkWorldDo(t, fallen, rises())
	if !ok || !risen.Up || !checkSafe(t, fallen) || !checkSafe(t, risen) {
		t.Fatalf("behind %+v it is not safe: %+v, %+v, %v", e, fallen, risen, ok)
	}
	return risen
}

func TestP62FallsAtEachWriteAndByte(t *testing.T) {
	for where, w := range someWorlds(t) {
		for what, e := range someEvents(w) {
			would := tableOf(after(t, w, e).Store)
			was, then := 0, 0
			eachFall(w, e, func(e impl.Event) {
				risen := riseBehind(t, w, e)
				told := tableOf(risen.Store)
				if sameTable(told, w.Table) {
					was++
				} else {
					then++
				}
				if !sameTable(told, w.Table) && !sameTable(told, would) {
					t.Fatalf("%s, %s: behind a fall at %d, %d it tells %v", where, what, e.Step, e.Bytes, told)
				}
			})
			if was == 0 || then == 0 && !sameTable(w.Table, would) {
				t.Errorf("%s, %s: as it was %d times, as it would be %d times", where, what, was, then)
			}
		}
	}
}

func TestP62FallsOfStoresOfAllKinds(t *testing.T) {
	for what, s := range goodStores() {
		w := worldOn(s)
		if !checkSafe(t, w) {
			t.Fatalf("%s: the world is not safe", what)
		}
		for _, e := range someEvents(w) {
			after(t, w, e)
			_, list, _, _ := wantChange(w, e)
			for step := range len(list) + 1 {
				if away := step - countsAt(list); len(list) > 20 && step%9 > 0 && (away < 0 || away > 2) {
					continue
				}
				for _, bytes := range []int{0, sizeAt(list, step) / 2, sizeAt(list, step)} {
					riseBehind(t, w, falling(e, step, bytes))
				}
			}
		}
	}
}

func TestP62TheTableBehindAFall(t *testing.T) {
	w := after(t, newWorld(), steady(0, 700)...)
	w = after(t, w, packs(), adds(entry("{a=x}", 700, 1)))
	text := func(e impl.Event) int {
		_, list, _, _ := wantChange(w, e)
		return len(list[0].Text)
	}
	add, drop, keep := adds(entry("{a=x}", 701, 5)), drops("[a=x]", 0, 10000), keeps(350)
	cases := []struct {
		what  string
		e     impl.Event
		would bool
	}{
		{"none of an add", falling(add, 0, 0), false},
		{"bytes below 0", falling(add, 0, -1), false},
		{"one less than all", falling(add, 0, text(add)-1), false},
		{"all bytes", falling(add, 0, text(add)), true},
		{"more", falling(add, 0, text(add)+1), true},
		{"the write", falling(add, 1, 0), true},
		{"the write, and bytes of none", falling(add, 1, -5), true},
		{"one less of a drop", falling(drop, 0, text(drop)-1), false},
		{"all of a drop", falling(drop, 0, text(drop)), true},
		{"the write of a drop", falling(drop, 1, 0), true},
		{"one less of a keep", falling(keep, 0, text(keep)-1), false},
		{"all of a keep", falling(keep, 0, text(keep)), true},
		{"a keep ahead of its files", falling(keep, 1, 0), true},
		{"a keep behind a file", falling(keep, 2, 0), true},
	}
	for _, c := range cases {
		plain := c.e
		plain.Fall = false
		want := w.Table
		if c.would {
			want = after(t, w, plain).Table
		}
		got, ok := checkWorldDo(t, w, c.e)
		if !ok || !sameTable(got.Table, want) || sameTable(want, w.Table) == c.would {
			t.Errorf("%s: the table is %v, %v", c.what, got.Table, ok)
		}
		if risen := after(t, got, rises()); !sameTable(tableOf(risen.Store), want) {
			t.Errorf("%s: it rises as %v", c.what, risen.Store)
		}
	}
}

// TestP62ATableOutOfStep says what is the table's, where the store does something else.
func TestP62ATableOutOfStep(t *testing.T) {
	d := dice(62)
	disks, stores, tables := slices.Collect(valuesOf(goodDisks())), slices.Collect(valuesOf(goodStores())), slices.Collect(valuesOf(goodTables()))
	could := 0
	for range 1500 {
		w := impl.World{Disk: disks[d.below(len(disks))], Up: true, Store: stores[d.below(len(stores))], Table: tables[d.below(len(tables))]}
		if d.below(4) == 0 {
			w.Table = someTable(&d, 10)
		}
		e := someEvent(&d, w)
		if next, ok := checkWorldDo(t, w, e); ok {
			could++
			checkSafe(t, next)
			checkWorldDo(t, next, rises())
		}
	}
	if could < 800 {
		t.Errorf("%d could be", could)
	}
}

func TestP63PackingThatFallsAgainAndAgain(t *testing.T) {
	for where, w := range someWorlds(t) {
		want := tableOf(w.Store)
		packed := after(t, w, packs())
		for first := range 40 {
			now := w
			for step := first; ; step++ {
				_, list, _, _ := wantChange(now, packs())
				if step > len(list) {
					break
				}
				bytes := []int{0, sizeAt(list, step) / 2, sizeAt(list, step)}[step%3]
				now = riseBehind(t, now, falling(packs(), step, bytes))
				if !sameTable(tableOf(now.Store), want) || !sameTable(now.Table, want) {
					t.Fatalf("%s: behind falls from %d to %d it tells %v", where, first, step, tableOf(now.Store))
				}
			}
			now = after(t, now, packs())
			if !sameTable(tableOf(now.Store), want) || len(now.Disk.Files) != len(packed.Disk.Files) || now.Disk.Log != "" {
				t.Fatalf("%s: behind falls from %d on it is packed as %+v", where, first, now)
			}
		}
	}
}

// TestP63AFallBetweenTheListAndTheLog has a log whose records the list has already.
func TestP63AFallBetweenTheListAndTheLog(t *testing.T) {
	w := after(t, newWorld(), steady(0, 700)...)
	w = after(t, w, drops("[b=y]", 0, 660))
	_, list, _, _ := wantChange(w, packs())
	at := countsAt(list)
	for _, step := range []int{at, at + 1} {
		fallen, _ := checkWorldDo(t, w, falling(packs(), step, 0))
		if (fallen.Disk.List != "") != (step > at) || fallen.Disk.Log != w.Disk.Log {
			t.Fatalf("behind %d writes the disk is %q", step, diskTexts(fallen.Disk))
		}
		risen := after(t, fallen, rises())
		if len(risen.Store.Held) != step-at {
			t.Errorf("behind %d writes there are %d blocks", step, len(risen.Store.Held))
		}
		again := after(t, risen, adds(entry("{b=y}", 600, 8)), falling(packs(), 0, 0), rises(), falling(drops("[a=x]", 0, 10000), 0, 5), rises(), packs(), falling(packs(), 1, 0), rises())
		if got := rowsShort(impl.StoreAsk(again.Store, nil, 0, 10000)); got != "{a=x}5,105,205,305,405,505,605{b=y}600" {
			t.Errorf("behind %d writes: %s", step, got)
		}
	}
}

func TestP64WhatWasDeletedNeverComesBack(t *testing.T) {
	d := dice(64)
	told := 0
	for range 60 {
		w := newWorld()
		for range 8 + d.below(20) {
			w, _ = checkWorldDo(t, w, adds(someFineBatch(&d, w.Store)...))
			if d.below(4) == 0 {
				w, _ = checkWorldDo(t, w, packs())
			}
		}
		rules, from, to := someRules(&d, 1), 0, w.Store.Head.High+1
		if len(impl.StoreAsk(w.Store, rules, from, to)) > 0 {
			told++
		}
		w = after(t, w, impl.Event{Kind: impl.WorldDrop, List: rules, From: from, To: to})
		for range 40 {
			e := someEvent(&d, w)
			for i := range e.Batch {
				e.Batch[i].T = max(e.Batch[i].T, to)
			}
			w, _ = checkWorldDo(t, w, e)
			if w.Up {
				if got := impl.StoreAsk(w.Store, rules, from, to); got != nil {
					t.Fatalf("what was dropped is told again behind %+v: %v", e, got)
				}
			}
			if got := impl.TableAsk(w.Table, rules, from, to); got != nil {
				t.Fatalf("the table tells what was dropped behind %+v: %v", e, got)
			}
		}
	}
	if told < 40 {
		t.Errorf("%d times something was dropped", told)
	}
}

func TestP64WhatIsWrittenAgainIsTold(t *testing.T) {
	w := after(t, newWorld(), steady(0, 700)...)
	w = after(t, w, packs(), drops("[a=x]", 0, 10000), falling(packs(), 1, 0), rises(), packs(), keeps(650), falling(packs(), 2, 0), rises())
	if got := rowsShort(impl.StoreAsk(w.Store, nil, 0, 10000)); got != "{b=y}50,150,250,350,450,550,650" {
		t.Fatalf("behind a drop: %s", got)
	}
	again := adds(entry("{a=x}", 605, 1))
	_, list, _, _ := wantChange(w, again)
	for bytes := range len(list[0].Text) {
		risen := after(t, w, falling(again, 0, bytes), rises())
		if got := impl.StoreAsk(risen.Store, matches{{Kind: 1, Name: "a", Word: "x"}}, 0, 10000); got != nil {
			t.Fatalf("behind %d bytes of a write it is %v", bytes, got)
		}
	}
	w = after(t, w, falling(again, 1, 0), rises(), packs(), falling(packs(), 0, 0), rises(), adds(entry("{a=x}", 950, 1)), packs(), falling(packs(), 1, 0), rises())
	if got := rowsShort(impl.StoreAsk(w.Store, matches{{Kind: 1, Name: "a", Word: "x"}}, 0, 10000)); got != "{a=x}605,950" {
		t.Errorf("written again it is %s", got)
	}
}

func TestP65WhatRisesIsAsItWas(t *testing.T) {
	check := func(w impl.World, e impl.Event) {
		t.Helper()
		if risen := riseBehind(t, w, e); !sameStore(risen.Store, w.Store) || !sameTable(risen.Table, w.Table) {
			t.Fatalf("behind %+v it rises as %+v, not %+v", e, risen.Store, w.Store)
		}
	}
	for _, w := range someWorlds(t) {
		for _, e := range someEvents(w) {
			check(w, falling(e, 0, 0))
			check(w, falling(e, 0, -1))
			_, list, _, _ := wantChange(w, e)
			if len(list) > 0 && list[0].Kind != impl.WriteList {
				check(w, falling(e, 0, len(list[0].Text)-1))
			}
			for step := range countsAt(list) + 1 {
				check(w, falling(e, step, 0))
			}
		}
	}
	d := dice(65)
	for range 30 {
		w := newWorld()
		for range 40 {
			if w, _ = checkWorldDo(t, w, someEvent(&d, w)); w.Up {
				check(w, falling(packs(), 0, 0))
			}
		}
	}
}

// TestP65RisesOfWhatIsLeft has torn logs, and files that no store has.
func TestP65RisesOfWhatIsLeft(t *testing.T) {
	for where, w := range someWorlds(t) {
		down := impl.World{Disk: w.Disk, Table: w.Table}
		for what, spoil := range map[string]func(d *impl.Disk){
			"as it is":               func(*impl.Disk) {},
			"a torn log":             func(d *impl.Disk) { d.Log += linesFrom(w.Store.Next, keepRec(9900))[:12] },
			"a byte behind the log":  func(d *impl.Disk) { d.Log += "x" },
			"files that no one has":  func(d *impl.Disk) { d.Files = append(slices.Clone(d.Files), manyFiles(5000, 9, 1)...) },
			"a file of the next one": func(d *impl.Disk) { *d = wantDo(*d, impl.Write{Kind: 2, Id: w.Store.Fresh, Text: "blo"}) },
		} {
			spoilt := down
			spoil(&spoilt.Disk)
			if risen := after(t, spoilt, rises()); !sameStore(risen.Store, w.Store) || !sameDisk(risen.Disk, w.Disk) {
				t.Errorf("%s, %s: it rises as %+v", where, what, risen)
			}
		}
	}
}

// cannot says that an event changes nothing.
func cannot(t *testing.T, what string, w impl.World, e impl.Event) {
	t.Helper()
	if got, ok := checkWorldDo(t, w, e); ok || !sameWorld(got, w) {
		t.Errorf("%s: it is %+v, %v", what, got, ok)
	}
}

func TestP66WhatCannotBe(t *testing.T) {
	for where, w := range someWorlds(t) {
		cannot(t, where+", a rise", w, rises())
		cannot(t, where+", a rise with a fall", w, falling(rises(), 0, 0))
		for _, kind := range append([]int{-1, 0, 6, 7}, farNumbers...) {
			cannot(t, where+", no kind", w, impl.Event{Kind: kind})
			cannot(t, where+", no kind, with a fall", w, impl.Event{Kind: kind, Fall: true})
		}
		for what, e := range someEvents(w) {
			_, list, _, _ := wantChange(w, e)
			for _, step := range append([]int{-1, len(list) + 1}, farNumbers...) {
				cannot(t, fmt.Sprintf("%s, %s, a fall at %d", where, what, step), w, falling(e, step, 0))
			}
			e.Step, e.Bytes = -7, math.MinInt
			if _, ok := checkWorldDo(t, w, e); !ok {
				t.Errorf("%s, %s: without a fall its Step counts", where, what)
			}
		}
		down, _ := checkWorldDo(t, w, falling(packs(), 0, 0))
		for what, e := range someEvents(w) {
			cannot(t, where+", down, "+what, down, e)
			cannot(t, where+", down, a fall in "+what, down, falling(e, 0, 0))
		}
		for _, kind := range append([]int{-1, 0, 6, 7}, farNumbers...) {
			cannot(t, where+", down, no kind", down, impl.Event{Kind: kind})
		}
		cannot(t, where+", down, a rise with a fall", down, falling(rises(), 0, 0))
		rise := rises()
		rise.Step, rise.Bytes, rise.From, rise.Batch = 99, -1, -1, entries{{}}
		after(t, down, rise)
	}
}

// TestP66FallsWithoutWrites has codes: nothing is written, and all falls.
func TestP66FallsWithoutWrites(t *testing.T) {
	for where, w := range someWorlds(t) {
		for _, what := range []string{"add of one that is old", "add of none", "drop of wrong times", "keep without an effect", "keep of a wrong age"} {
			e := someEvents(w)[what]
			same := after(t, w, e)
			if !sameWorld(same, w) {
				t.Errorf("%s, %s: it is %+v", where, what, same)
			}
			for _, bytes := range []int{-1, 0, 1, 1000} {
				down, ok := checkWorldDo(t, w, falling(e, 0, bytes))
				if !ok || down.Up || !sameDisk(down.Disk, w.Disk) || !sameTable(down.Table, w.Table) || !sameStore(down.Store, impl.Store{}) {
					t.Errorf("%s, a fall in %s: it is %+v, %v", where, what, down, ok)
				}
				if risen := after(t, down, rises()); !sameWorld(risen, w) {
					t.Errorf("%s, a fall in %s: it rises as %+v", where, what, risen)
				}
			}
			cannot(t, where+", one more than no writes", w, falling(e, 1, 0))
		}
	}
	last := worldOn(goodStores()["numbers at their end"])
	for what, e := range map[string]impl.Event{"add": adds(entry("{a=x}", 5, 1)), "drop": drops("[]", 0, 5), "pack": packs()} {
		if got := after(t, last, e, falling(e, 0, 5), rises()); !sameWorld(got, last) {
			t.Errorf("%s with numbers at their end: %+v", what, got)
		}
	}
}

func TestP66TwoFalls(t *testing.T) {
	for where, w := range someWorlds(t) {
		add := adds(entry("{c=z}", max(0, w.Store.Head.High), 7), entry("{d=z}", max(0, w.Store.Head.High), 7))
		once, _ := checkWorldDo(t, w, falling(add, 0, 9))
		cannot(t, where+", a fall of what fell", once, falling(add, 0, 20))
		twice := after(t, once, rises(), falling(add, 0, 20), rises(), falling(add, 1, 0), rises())
		if got, want := tableOf(twice.Store), after(t, w, add).Table; !sameTable(got, want) {
			t.Errorf("%s: behind three falls it tells %v", where, got)
		}
	}
}

func TestP66DisksWithoutAStore(t *testing.T) {
	whole := after(t, newWorld(), steady(0, 900)...)
	whole = after(t, whole, packs(), adds(entry("{a=x}", 700, 1)))
	for what, spoil := range map[string]func(d *impl.Disk){
		"a list that is none":        func(d *impl.Disk) { d.List = "x" },
		"a list with a byte turned":  func(d *impl.Disk) { d.List = d.List[:9] + "7" + d.List[10:] },
		"a file missing":             func(d *impl.Disk) { d.Files = d.Files[1:] },
		"a file cut":                 func(d *impl.Disk) { d.Files[0].Text = d.Files[0].Text[1:] },
		"a file of another block":    func(d *impl.Disk) { d.Files[0].Text = d.Files[1].Text },
		"a record with a number too": func(d *impl.Disk) { d.Log = linesFrom(whole.Store.Next+1, keepRec(200)) },
		"a record that cannot be":    func(d *impl.Disk) { d.Log = linesFrom(whole.Store.Next-1, keepRec(0)) },
	} {
		w := roomy(whole)
		spoil(&w.Disk)
		if !impl.WorldOk(w) || checkSafe(t, w) {
			t.Errorf("%s: it is not ok, or safe", what)
		}
		checkWorldDo(t, w, packs())
		checkWorldDo(t, w, falling(packs(), 1, 0))
		w.Up, w.Store = false, impl.Store{}
		if !impl.WorldOk(w) || checkSafe(t, w) {
			t.Errorf("%s: down it is not ok, or safe", what)
		}
		cannot(t, what, w, rises())
	}
}

// TestP66DisksThatAreFull says what a write does that finds no room.
func TestP66DisksThatAreFull(t *testing.T) {
	w := after(t, newWorld(), steady(0, 500)...)
	add := adds(entry("{a=x}", 460, 1))
	_, list, _, _ := wantChange(w, add)
	size := len(list[0].Text)
	for _, room := range []int{size, size - 1, 0} {
		full := w
		full.Disk.Log += strings.Repeat("x", impl.LogMax-len(w.Disk.Log)-room)
		next, ok := checkWorldDo(t, full, add)
		if written := len(next.Disk.Log) > len(full.Disk.Log); !ok || !next.Up || written != (room == size) || checkSafe(t, next) {
			t.Errorf("room for %d of %d: %v, %v", room, size, written, ok)
		}
		for _, bytes := range []int{0, room - 1, room, room + 1, size} {
			checkWorldDo(t, full, falling(add, 0, bytes))
		}
	}
}

func TestP66WorldsThatAreNotOk(t *testing.T) {
	wrong := map[string]impl.World{}
	for what, d := range wrongDisks() {
		wrong["the disk, "+what] = impl.World{Disk: d, Up: true, Store: newStore(), Table: impl.TableNew()}
		wrong["the disk, down, "+what] = impl.World{Disk: d, Table: impl.TableNew()}
	}
	for what, x := range wrongTables() {
		wrong["the table, "+what] = impl.World{Up: true, Store: newStore(), Table: x}
		wrong["the table, down, "+what] = impl.World{Table: x}
	}
	for what, s := range wrongStores() {
		wrong["the store, "+what] = impl.World{Up: true, Store: s, Table: impl.TableNew()}
	}
	for what, s := range goodStores() {
		if what != "nothing" {
			wrong["down, a store, "+what] = impl.World{Store: s, Table: impl.TableNew()}
		}
	}
	for what, w := range wrong {
		if impl.WorldSafe(w) {
			t.Errorf("%s: WorldSafe is true", what)
		}
		for _, e := range []impl.Event{adds(entry("{a=x}", 5, 5)), drops("[]", 0, 5), keeps(0), packs(), rises(), {}, falling(packs(), 0, 0)} {
			if got, ok := impl.WorldDo(w, e); ok || !sameWorld(got, impl.World{}) {
				t.Errorf("%s: WorldDo of %+v is %+v, %v", what, e, got, ok)
			}
		}
	}
}

func TestP67OneByOneIsTogether(t *testing.T) {
	d := dice(67)
	for range 40 {
		w := newWorld()
		var list events
		for range d.below(60) {
			e := someEvent(&d, w)
			list = append(list, e)
			w, _ = checkWorldDo(t, w, e)
		}
		if got := impl.WorldPlay(list); !sameWorld(got, w) {
			t.Fatalf("WorldPlay(%+v) is %+v, not %+v", list, got, w)
		}
	}
	if got := impl.WorldPlay(nil); !sameWorld(got, newWorld()) {
		t.Errorf("of none it is %+v", got)
	}
	most := make(events, impl.PlayMax)
	for i := range most {
		most[i] = adds(entry("{a=x}", i, i))
	}
	if got := impl.WorldPlay(most); got.Store.Next != impl.PlayMax || got.Table.High != impl.PlayMax-1 || !checkSafe(t, got) {
		t.Errorf("of 120 it is %+v", got)
	}
	if got := impl.WorldPlay(append(most, adds(entry("{a=x}", 200, 1)))); !sameWorld(got, newWorld()) {
		t.Errorf("of 121 it is %+v", got)
	}
	none := impl.WorldPlay(append(make(events, impl.PlayMax-1), most[0]))
	if none.Store.Next != 1 {
		t.Errorf("behind 119 that cannot be it is %+v", none)
	}
	if got := impl.WorldPlay(make(events, impl.PlayMax+1)); !sameWorld(got, newWorld()) {
		t.Errorf("of 121 that cannot be it is %+v", got)
	}
}

// longBatch is as long a record as may be, at a time.
func longBatch(at int) entries {
	var batch entries
	for i := range impl.BatchMax {
		text := fmt.Sprintf("{aaaaaa=aaaaaaa%c,bbbbbb=bbbbbbbb,cccccc=cccccccc,dddddd=dddddddd}", 'a'+i)
		batch = append(batch, entry(text, at, impl.ValueMax-i))
	}
	return batch
}

func TestP61PlaysAsLongAsMayBe(t *testing.T) {
	var list events
	for i := range impl.PlayMax {
		list = append(list, adds(longBatch(5000+i)...))
	}
	w := impl.WorldPlay(list)
	if w.Store.Next != impl.PlayMax || !impl.WorldSafe(w) {
		t.Errorf("120 adds leave a log of %d bytes, and Next is %d", len(w.Disk.Log), w.Store.Next)
	}
	list = nil
	for i := range impl.PlayMax / 2 {
		list = append(list, adds(longBatch(i*160)...), packs())
	}
	if w := impl.WorldPlay(list); w.Table.High != 59*160 || len(w.Store.Held) < 9 || !checkSafe(t, w) {
		t.Errorf("60 adds and packs leave %d blocks, High %d", len(w.Store.Held), w.Table.High)
	}
}

func TestP68SafeOnlyIfItTellsWhatTheTableSays(t *testing.T) {
	for where, w := range someWorlds(t) {
		down, _ := checkWorldDo(t, w, falling(packs(), 0, 0))
		for _, now := range []impl.World{w, down} {
			unsafe := func(what string, spoil func(w *impl.World)) {
				t.Helper()
				spoilt := roomy(now)
				spoil(&spoilt)
				if !plainWorldOk(spoilt) {
					t.Fatalf("%s, %s: it is not ok", where, what)
				}
				if checkSafe(t, spoilt) {
					t.Errorf("%s, %s: it is safe", where, what)
				}
			}
			for i, row := range now.Table.Rows {
				unsafe("a row less", func(w *impl.World) { w.Table.Rows = slices.Delete(w.Table.Rows, i, i+1) })
				unsafe("another number", func(w *impl.World) { w.Table.Rows[i].List[0].V++ })
				if len(row.List) > 1 {
					unsafe("a sample less", func(w *impl.World) { w.Table.Rows[i].List = w.Table.Rows[i].List[1:] })
				}
				unsafe("other labels", func(w *impl.World) { w.Table.Rows[i].Labels[0].Word += "a" })
			}
			unsafe("a later High", func(w *impl.World) { w.Table.High++ })
			unsafe("a row more", func(w *impl.World) {
				w.Table.Rows = append(w.Table.Rows, row("{zz=z}", max(0, w.Table.High)))
				w.Table.High = max(0, w.Table.High)
			})
			if now.Table.Rows == nil {
				continue
			}
			unsafe("an empty disk", func(w *impl.World) { w.Disk = impl.Disk{} })
			if now.Disk.Log != "" && where != "the list is late" {
				unsafe("no log", func(w *impl.World) { w.Disk.Log = "" })
			}
		}
	}
}

func TestP68EachConditionAlone(t *testing.T) {
	w := after(t, newWorld(), steady(0, 700)...)
	w = after(t, w, packs(), drops("[b=y]", 0, 100), adds(entry("{a=x}", 700, 1)))
	other := after(t, w, adds(entry("{a=x}", 701, 1)))
	packed := after(t, w, packs())
	empty := after(t, newWorld(), adds(entry("{a=x}", 500, 1)), drops("[]", 0, 10000))
	floor := empty
	floor.Table.Floor = 500
	late := empty
	late.Table.High = 501
	cases := map[string]struct {
		w    impl.World
		safe bool
	}{
		"all as it should be":              {w, true},
		"down":                             {impl.World{Disk: w.Disk, Table: w.Table}, true},
		"the store of a longer log":        {impl.World{Disk: w.Disk, Up: true, Store: other.Store, Table: w.Table}, false},
		"that, with its table":             {impl.World{Disk: w.Disk, Up: true, Store: other.Store, Table: other.Table}, false},
		"the disk of a longer log":         {impl.World{Disk: other.Disk, Up: true, Store: w.Store, Table: w.Table}, false},
		"that, with its table alone":       {impl.World{Disk: other.Disk, Up: true, Store: w.Store, Table: other.Table}, false},
		"the same told, another list":      {impl.World{Disk: w.Disk, Up: true, Store: packed.Store, Table: w.Table}, false},
		"the same told, packed on disk":    {impl.World{Disk: packed.Disk, Up: true, Store: w.Store, Table: w.Table}, false},
		"the same told, packed, down":      {impl.World{Disk: packed.Disk, Table: w.Table}, true},
		"nothing told":                     {empty, true},
		"nothing told, another Floor":      {floor, false},
		"nothing told, another High":       {late, false},
		"nothing told, another Floor down": {impl.World{Disk: floor.Disk, Table: floor.Table}, false},
		"nothing told, another High down":  {impl.World{Disk: late.Disk, Table: late.Table}, false},
		"nothing, which no disk has":       {impl.World{}, false},
		"an empty disk, down":              {impl.World{Table: impl.TableNew()}, true},
	}
	for what, c := range cases {
		if got := checkSafe(t, c.w); got != c.safe || !impl.WorldOk(c.w) {
			t.Errorf("%s: WorldSafe is %v", what, got)
		}
	}
	torn := w
	torn.Disk.Log += "torn"
	torn.Disk.Files = append(slices.Clone(w.Disk.Files), impl.FileText{Id: 77, Text: "x"})
	if !checkSafe(t, torn) {
		t.Error("what is to be mended is not safe")
	}
	// The same numbers and ranges, and so the same list, but another block behind it.
	block := roomy(w)
	block.Store.Held[0].Block.Rows[0].List[0].V++
	if impl.StoreList(block.Store) != impl.StoreList(w.Store) || checkSafe(t, block) {
		t.Error("a store that tells something else under the same list is safe")
	}
	block.Table = tableOf(block.Store)
	if checkSafe(t, block) {
		t.Error("a disk that tells something else is safe")
	}
}

const docLines = `add {app=a,host=b} 10 5 {app=a,host=c} 12 7
add {app=a,host=b} 110 6
add {app=a,host=b} 10 6
add {app=a,host=b} 500 9
pack
disk
ask [app=a] 0 1000
drop [host=b] 0 200
ask [app^a,host!c] 0 1000
fall 0 9 add {app=a,host=b} 501 1
ask [] 0 1000
rise
ask [] 0 1000
fall 1 0 add {app=a,host=b} 501 1
rise
ask [host=b] 500 600
fall 1 0 pack
rise
disk
keep 300
ask [] 0 1000
pack
disk
add {app=a} 100 1
what`

// docAnswers is what each of docLines is answered by.
var docAnswers = []string{
	"ok\n", "ok\n", "nothing\n", "ok\n", "ok\n",
	"log 0, list 82, file 0 of 87, file 1 of 58\n",
	"{app=a,host=b} 10:5 110:6 500:9\n{app=a,host=c} 12:7\n2 rows\n",
	"ok\n", "{app=a,host=b} 500:9\n1 rows\n", "ok\n", "no\n", "ok\n",
	"{app=a,host=b} 500:9\n{app=a,host=c} 12:7\n2 rows\n",
	"ok\n", "ok\n", "{app=a,host=b} 500:9 501:1\n1 rows\n", "ok\n", "ok\n",
	"log 71, list 106, file 0 of 87, file 1 of 58\n",
	"ok\n", "{app=a,host=b} 500:9 501:1\n1 rows\n", "nothing\n", "log 0, list 66\n", "nothing\n", "what\n",
}

func checkSession(t *testing.T, lines []string) string {
	t.Helper()
	got, want := impl.Session(lines), wantSession(lines)
	if got != want {
		t.Fatalf("Session(%q) is\n%s, not\n%s", lines, got, want)
	}
	return got
}

func TestP69TheSessionOfTheDocument(t *testing.T) {
	lines := strings.Split(docLines, "\n")
	for n := range len(lines) + 1 {
		if got, want := checkSession(t, lines[:n]), strings.Join(docAnswers[:n], ""); got != want {
			t.Errorf("%d lines are answered by\n%s, not\n%s", n, got, want)
		}
	}
}

// answersTo is what each line behind some others is answered by.
func answersTo(t *testing.T, ahead []string, line string) string {
	t.Helper()
	all := checkSession(t, append(slices.Clone(ahead), line))
	return strings.TrimPrefix(all, checkSession(t, ahead))
}

func TestP69LinesOneByOne(t *testing.T) {
	ahead := []string{"add {a=x} 10 5 {b=y} 20 6", "add {a=x} 500 7"}
	down := append(slices.Clone(ahead), "fall 0 0 pack")
	for line, want := range map[string]string{
		"add {a=x} 501 1":                     "ok",
		"add {a=x} 501 1 {b=y} 501 1":         "ok",
		"add {a=x} 500 7":                     "ok",
		"add {a=x} 500 8":                     "nothing",
		"add {a=x} 100 8":                     "nothing",
		"add":                                 "nothing",
		"add ":                                "what",
		"add  ":                               "what",
		"add   ":                              "nothing",
		"add {a=x}":                           "what",
		"add {a=x} 501":                       "what",
		"add {a=x} 501 1 ":                    "what",
		" add {a=x} 501 1":                    "what",
		"add  {a=x} 501 1":                    "what",
		"add {a=x}  501 1":                    "what",
		"add {a=x} 501 1 {b=y}":               "what",
		"add {a=x} 501 1 {b=y} 5":             "what",
		"add {a=x} 501 1\n":                   "nothing",
		"add\t{a=x} 501 1":                    "what",
		"Add {a=x} 501 1":                     "what",
		"add {} 501 1":                        "nothing",
		"add x 501 1":                         "nothing",
		"add {x=} 501 1":                      "nothing",
		"add {a=x} 501 01":                    "nothing",
		"add {a=x} 501 +1":                    "nothing",
		"add {a=x} 501 -1":                    "nothing",
		"add {a=x} 501 -0":                    "nothing",
		"add {a=x} 501 0":                     "ok",
		"add {a=x} 501 00":                    "nothing",
		"add {a=x} 0501 1":                    "nothing",
		"add {a=x} +501 1":                    "nothing",
		"add {a=x} 9999 1":                    "ok",
		"add {a=x} 10000 1":                   "nothing",
		"add {a=x} 999999999 1":               "nothing",
		"add {a=x} 9999999999 1":              "nothing",
		"add {a=x} 501 999999999":             "ok",
		"add {a=x} 501 1000000000":            "ok",
		"add {a=x} 501 2147483647":            "ok",
		"add {a=x} 501 2147483648":            "nothing",
		"add {a=x} 501 9999999999":            "nothing",
		"add {a=x} 501 02147483647":           "nothing",
		"add {a=x} 501 10000000000":           "nothing",
		"add {a=x} 501 18446744073709551617":  "nothing",
		"add {a=x} 501 1" + sixMore(501):      "nothing",
		"add {a=y} 501 1" + sixMore(501)[12:]: "ok",
		"add" + sixMore(501):                  "ok",
		"drop [] 0 10000":                     "ok",
		"drop [] 0 0":                         "ok",
		"drop [a=x] 10 11":                    "ok",
		"drop [] 0 10001":                     "nothing",
		"drop [] 9999 10000":                  "ok",
		"drop [] 10000 10000":                 "nothing",
		"drop [] 5 4":                         "nothing",
		"drop [] 05 9":                        "nothing",
		"drop [] 5 +9":                        "nothing",
		"drop [] x 9":                         "nothing",
		"drop []  9":                          "nothing",
		"drop [] 0 1 ":                        "what",
		"drop [] 0":                           "what",
		"drop []":                             "what",
		"drop":                                "what",
		"drop x 0 10000":                      "no",
		"drop {a=x} 0 10000":                  "no",
		"drop  0 10000":                       "no",
		"drop [a=x,] 0 10000":                 "no",
		"drop [A=x] 0 10000":                  "no",
		"drop [a=x,a=x,a=x,a=x] 0 5":          "ok",
		"drop [a=x,a=x,a=x,a=x,a=x] 0 5":      "no",
		"keep 0":                              "ok",
		"keep 400":                            "ok",
		"keep 401":                            "nothing",
		"keep 999999999":                      "nothing",
		"keep 9999999999":                     "nothing",
		"keep 00":                             "nothing",
		"keep -1":                             "nothing",
		"keep x":                              "nothing",
		"keep ":                               "nothing",
		"keep":                                "what",
		"keep 0 0":                            "what",
		"keep 0 ":                             "what",
		"pack":                                "ok",
		"pack ":                               "what",
		" pack":                               "what",
		"pack 0":                              "what",
		"packs":                               "what",
		"pack\n":                              "what",
		"rise":                                "no",
		"rise ":                               "what",
		"disk":                                "log 70, list 0",
		"disk ":                               "what",
		"disk 0":                              "what",
		"":                                    "what",
		" ":                                   "what",
		"\n":                                  "what",
		"what":                                "what",
		"ok":                                  "what",
		"ask [] 0 1000":                       "{a=x} 10:5 500:7\n{b=y} 20:6\n2 rows",
		"ask [a=x] 0 11":                      "{a=x} 10:5\n1 rows",
		"ask [a=x] 0 10":                      "0 rows",
		"ask [a=z] 0 1000":                    "0 rows",
		"ask [] 1000 0":                       "0 rows",
		"ask [] 0 999999999":                  "{a=x} 10:5 500:7\n{b=y} 20:6\n2 rows",
		"ask [] 0 1000000000":                 "0 rows",
		"ask [] 999999999 999999999":          "0 rows",
		"ask [] 1000000000 100":               "{a=x} 10:5\n{b=y} 20:6\n2 rows",
		"ask [] -5 100":                       "{a=x} 10:5\n{b=y} 20:6\n2 rows",
		"ask [] 020 100":                      "{a=x} 10:5\n{b=y} 20:6\n2 rows",
		"ask [] 20 0100":                      "0 rows",
		"ask []  100":                         "{a=x} 10:5\n{b=y} 20:6\n2 rows",
		"ask [] x 100":                        "{a=x} 10:5\n{b=y} 20:6\n2 rows",
		"ask [] 20 100":                       "{b=y} 20:6\n1 rows",
		"ask {a=x} 0 1000":                    "no",
		"ask x 0 1000":                        "no",
		"ask  0 1000":                         "no",
		"ask [a=x,] 0 1000":                   "no",
		"ask [] 0":                            "what",
		"ask []":                              "what",
		"ask":                                 "what",
		"ask [] 0 1000 ":                      "what",
		" ask [] 0 1000":                      "what",
		"ask  [] 0 1000":                      "what",
		"fall 0 0 add {a=x} 501 1":            "ok",
		"fall 1 0 add {a=x} 501 1":            "ok",
		"fall 2 0 add {a=x} 501 1":            "no",
		"fall 0 999999999 add {a=x} 501 1":    "ok",
		"fall 0 9999999999 add {a=x} 501 1":   "ok",
		"fall 0 x add {a=x} 501 1":            "ok",
		"fall 0 -1 add {a=x} 501 1":           "ok",
		"fall 0  add {a=x} 501 1":             "ok",
		"fall x 0 add {a=x} 501 1":            "no",
		"fall -1 0 add {a=x} 501 1":           "no",
		"fall 00 0 add {a=x} 501 1":           "no",
		"fall +0 0 add {a=x} 501 1":           "no",
		"fall  0 add {a=x} 501 1":             "no",
		"fall 0 0 add {a=x} 100 1":            "ok",
		"fall 1 0 add {a=x} 100 1":            "no",
		"fall 0 0 add {a=x} 501":              "what",
		"fall 0 0 add":                        "ok",
		"fall 0 0 drop [] 0 10":               "ok",
		"fall 0 0 drop x 0 10":                "no",
		"fall 0 0 keep 0":                     "ok",
		"fall 0 0 keep -1":                    "ok",
		"fall 0 0 pack":                       "ok",
		"fall 3 0 pack":                       "ok",
		"fall 4 0 pack":                       "no",
		"fall 0 0 rise":                       "no",
		"fall 0 0 disk":                       "what",
		"fall 0 0 ask [] 0 1000":              "what",
		"fall 0 0 fall 0 0 pack":              "what",
		"fall 0 0 what":                       "what",
		"fall 0 0 ":                           "what",
		"fall 0 0":                            "what",
		"fall 0":                              "what",
		"fall":                                "what",
		"fall 0 pack":                         "what",
		"fall pack":                           "what",
		"fall 0 0 0 pack":                     "what",
		"fall 0 0  pack":                      "what",
		"fall 0 0 pack ":                      "what",
		" fall 0 0 pack":                      "what",
		"fall  0 0 pack":                      "what",
		"fall\t0 0 pack":                      "what",
		"\xff\x00":                            "what",
		"add {a=\xff} 501 1":                  "nothing",
		"add {a=x} 501 \x00":                  "nothing",
		"add {a=x} 501 \u0661":                "nothing",
		strings.Repeat("add ", 4) + "{a=x} 501 1": "nothing",
	} {
		if got := answersTo(t, ahead, line); got != want+"\n" {
			t.Errorf("%q is answered by %q, not by %q", line, got, want)
		}
	}
	for line, want := range map[string]string{
		"add {a=x} 501 1":          "no",
		"add":                      "no",
		"add {a=x} 501":            "what",
		"add x x x":                "no",
		"drop [] 0 10":             "no",
		"drop x 0 10":              "no",
		"keep 0":                   "no",
		"keep -1":                  "no",
		"pack":                     "no",
		"fall 0 0 pack":            "no",
		"fall 0 0 rise":            "no",
		"ask [] 0 1000":            "no",
		"ask x 0 1000":             "no",
		"ask [] 0":                 "what",
		"rise":                     "ok",
		"rise ":                    "what",
		"disk":                     "log 70, list 0",
		"fall 0 0 add {a=x} 501 1": "no",
		"":                         "what",
	} {
		if got := answersTo(t, down, line); got != want+"\n" {
			t.Errorf("down, %q is answered by %q, not by %q", line, got, want)
		}
	}
}

// sixMore is six entries, as a line has them.
func sixMore(at int) string {
	out := ""
	for i := range impl.BatchMax {
		out += fmt.Sprintf(" {a=%c} %d %d", 'a'+i, at, i)
	}
	return out
}

func TestP69HowManyLines(t *testing.T) {
	var lines []string
	for i := range 62 {
		lines = append(lines, fmt.Sprintf("add {a=x} %d 1", i))
	}
	for _, n := range []int{0, 1, 59, 60} {
		if got := checkSession(t, lines[:n]); got != strings.Repeat("ok\n", n) {
			t.Errorf("%d lines are answered by %q", n, got)
		}
	}
	for _, n := range []int{61, 62} {
		if got := checkSession(t, lines[:n]); got != strings.Repeat("ok\n", 60) {
			t.Errorf("%d lines are answered by %q", n, got)
		}
	}
	if got := impl.Session(nil); got != "" {
		t.Errorf("no line is answered by %q", got)
	}
	if got := impl.Session(make([]string, 60)); got != strings.Repeat("what\n", 60) {
		t.Errorf("empty lines are answered by %q", got)
	}
	lines[59] = "ask [] 58 100"
	if got := checkSession(t, lines); !strings.HasSuffix(got, "ok\n{a=x} 58:1\n1 rows\n") {
		t.Errorf("the last line is answered by %q", got)
	}
}

// eventLine is an event as a line.
func eventLine(e impl.Event) string {
	out := ""
	if e.Fall {
		out = fmt.Sprintf("fall %d %d ", e.Step, e.Bytes)
	}
	switch e.Kind {
	case 1:
		out += "add"
		for _, x := range e.Batch {
			out += fmt.Sprintf(" %s %d %d", labelsText(x.Labels), x.T, x.V)
		}
	case 2:
		out += fmt.Sprintf("drop %s %d %d", matchesText(e.List), e.From, e.To)
	case 3:
		out += fmt.Sprintf("keep %d", e.From)
	case 4:
		out += "pack"
	case 5:
		out += "rise"
	}
	return out
}

func TestP69SessionsTellWhatATableWould(t *testing.T) {
	d := dice(69)
	told := map[string]int{}
	for range 80 {
		w := newWorld()
		var lines []string
		for range 30 {
			e := someEvent(&d, w)
			line := eventLine(e)
			switch d.below(12) {
			case 0:
				line = turned(&d, line, "adrop kefl0123456789{}[]=!,\n+-")
			case 1:
				line = "disk"
			}
			lines = append(lines, line)
			w, _ = answerIn(w, line)
			if d.below(3) == 0 {
				lines = append(lines, fmt.Sprintf("ask %s %d %d", matchesText(someRules(&d, 1)), max(0, w.Table.High-d.below(900)), w.Table.High+1))
			}
		}
		got := checkSession(t, lines)
		for line := range strings.Lines(got) {
			told[strings.Trim(line, "0123456789\n")]++
		}
	}
	for _, line := range []string{"ok", "nothing", "no", "what", " rows"} {
		if told[line] < 30 {
			t.Errorf("%q is told %d times", line, told[line])
		}
	}
}

// settled waits until no more goroutines run than ran ahead of some calls; false, if that does not come.
func settled(most int) bool {
	for range 2000 {
		if runtime.NumGoroutine() <= most {
			return true
		}
		time.Sleep(time.Millisecond)
	}
	return false
}

func TestNoGoroutineIsLeftBehind(t *testing.T) {
	worlds := someWorlds(t)
	before := runtime.NumGoroutine()
	for _, w := range worlds {
		for _, e := range someEvents(w) {
			impl.WorldDo(w, e)
			for _, step := range []int{-1, 0, 1, 2, 99} {
				impl.WorldDo(w, falling(e, step, 3))
			}
		}
		impl.WorldDo(w, rises())
		impl.WorldDo(impl.World{Disk: w.Disk, Table: w.Table}, rises())
		impl.WorldSafe(w)
	}
	impl.WorldDo(impl.World{Up: true, Store: impl.Store{Next: -1}}, packs())
	impl.WorldPlay(steady(0, 900))
	impl.Session(strings.Split(docLines, "\n"))
	if !settled(before) {
		t.Errorf("%d goroutines run, not %d", runtime.NumGoroutine(), before)
	}
}

func TestWorldsLeaveTheirArguments(t *testing.T) {
	worlds := slices.Collect(valuesOf(someWorlds(t)))
	for _, w := range slices.Clone(worlds) {
		down, _ := impl.WorldDo(w, falling(adds(entry("{a=x}", max(0, w.Store.Head.High), 1)), 0, 9))
		torn, _ := impl.WorldDo(w, falling(packs(), 1, 20))
		worlds = append(worlds, down, torn)
	}
	worlds = append(worlds, worldOn(twoHeld()), impl.World{Up: true, Store: wrongStores()["an Id twice"]}, impl.World{Disk: wrongDisks()["an Id twice"]})
	for _, w := range worlds {
		w = roomy(w)
		list := []impl.Event{rises(), falling(rises(), 0, 0), {}, {Kind: impl.WorldAdd, Batch: entries{{}}}, {Kind: impl.WorldDrop, List: wrongMatches["five"]}}
		for _, e := range someEvents(w) {
			list = append(list, e, falling(e, 0, 0), falling(e, 0, 10), falling(e, 0, 1000), falling(e, 1, 10), falling(e, 2, 10), falling(e, 99, 0))
		}
		for _, e := range list {
			e = roomy(e)
			h := hand(w, e)
			got, _ := impl.WorldDo(w, e)
			h.check(t, fmt.Sprintf("WorldDo of %+v", e), got)
		}
		h := hand(w)
		impl.WorldOk(w)
		impl.WorldSafe(w)
		h.check(t, "WorldOk or WorldSafe")
	}
	h := hand()
	h.check(t, "WorldNew", impl.WorldNew())
	d := dice(12)
	for range 10 {
		w := newWorld()
		var list events
		for range 30 {
			list = append(list, someEvent(&d, w))
			w, _ = impl.WorldDo(w, list[len(list)-1])
		}
		list = roomy(list)
		h := hand(list)
		h.check(t, "WorldPlay", impl.WorldPlay(list))
	}
	lines := roomy(append(strings.Split(docLines, "\n"), "ask [] 0 1000"))
	h = hand(lines)
	h.check(t, "Session", impl.Session(lines))
}

func TestWorldsKeepNothing(t *testing.T) {
	for where, w := range someWorlds(t) {
		for what, e := range someEvents(w) {
			first, fine := impl.WorldDo(w, e)
			impl.WorldDo(newWorld(), adds(entry("{zz=z}", 5, 5)))
			impl.Session([]string{"add {zz=z} 5 5"})
			if again, ok := impl.WorldDo(w, e); ok != fine || !sameWorld(first, again) {
				t.Errorf("%s, %s: once it is %+v, and then %+v", where, what, first, again)
			}
		}
	}
}
