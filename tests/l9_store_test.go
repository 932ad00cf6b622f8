package tests

import (
	"fmt"
	"maps"
	"math"
	"slices"
	"strings"
	"testing"

	"loop.example/almanack/impl"
)

// basesHeld is n blocks side by side, of a base each, with a sample each.
func basesHeld(n int) helds {
	var out helds
	for i := range n {
		out = append(out, held(i, i*100, i*100+100, i*100+50))
	}
	return out
}

// spread is samples of one row, in a block and in Head: so many in all.
func spread(n int) impl.Store {
	return impl.Store{
		Fresh: 1,
		Head:  impl.Table{Rows: rows{row("{a=x}", upTo(900, n-400, 1)...)}, High: 1600},
		Held:  helds{held(0, 0, 900, upTo(0, 400, 1)...)},
	}
}

// parted is rows of their own in a block and in Head.
func parted(inBlock, inHead int) impl.Store {
	s := impl.Store{Fresh: 1, Head: impl.Table{High: 600}, Held: helds{{Block: impl.Block{Low: 0, High: 100, Rows: manyRows(inBlock, 1)}}}}
	for i := range inHead {
		s.Head.Rows = append(s.Head.Rows, row(fmt.Sprintf("{b=%c}", 'a'+i), 500))
	}
	return s
}

func withTombs(s impl.Store, list ...impl.Tomb) impl.Store {
	s.Tombs = list
	return s
}

func withFloor(s impl.Store, floor int) impl.Store {
	s.Head.Floor = floor
	return s
}

// twoHeld is a store with two blocks, and one of Tombs.
func twoHeld() impl.Store {
	return impl.Store{
		Next:  5,
		Fresh: 9,
		Head:  impl.Table{Rows: rows{row("{a=x}", 450, 700), row("{b=y}", 600)}, High: 750},
		Held:  helds{held(3, 0, 100, 5, 50), held(7, 100, 200, 150)},
		Tombs: tombs{tomb(4, "[a=x]", 0, 10)},
	}
}

func goodStores() map[string]impl.Store {
	six := slices.Repeat(tombs{tomb(9, "[]", 5, 5)}, impl.TombMax)
	return map[string]impl.Store{
		"new":                      newStore(),
		"nothing":                  {},
		"numbers at their end":     {Next: impl.NumMax, Fresh: impl.NumMax, Head: impl.TableNew()},
		"rows in Head alone":       {Head: impl.Table{Rows: rows{row("{a=x}", 5, 900)}, High: 900}},
		"two blocks":               twoHeld(),
		"Id 0 alone":               {Fresh: 1, Head: impl.Table{High: 400}, Held: helds{held(0, 0, 100, 5)}},
		"Id 0 and Fresh - 1":       {Fresh: 9, Head: impl.Table{High: 500}, Held: helds{held(8, 0, 100, 5), held(0, 100, 200, 150)}},
		"Id NumMax - 1":            {Fresh: impl.NumMax, Head: impl.Table{High: 400}, Held: helds{held(impl.NumMax-1, 0, 100, 5)}},
		"sixty blocks":             {Fresh: 60, Head: impl.Table{High: 6300}, Held: basesHeld(impl.HeldMax)},
		"ending at the bound":      {Fresh: 1, Head: impl.Table{High: 400}, Held: helds{held(0, 0, 100, 5)}},
		"ending at a later bound":  {Fresh: 1, Head: impl.Table{High: 499}, Held: helds{held(0, 0, 100, 5)}},
		"nine ending at the bound": {Fresh: 1, Head: impl.Table{High: 1200}, Held: helds{held(0, 0, 900, 5)}},
		"at the last bound":        {Fresh: 1, Head: impl.Table{High: impl.TimeMax}, Held: helds{held(0, 9500, 9600, 9599)}},
		"a base behind Floor":      {Fresh: 1, Head: impl.Table{High: 500, Floor: 100}, Held: helds{held(0, 100, 200, 150)}},
		"Floor in a block":         {Fresh: 1, Head: impl.Table{High: 700, Floor: 200}, Held: helds{held(0, 0, 300, 5, 250)}},
		"all of a block forgotten": {Fresh: 1, Head: impl.Table{High: 700, Floor: 200}, Held: helds{held(0, 0, 300, 5)}},
		"side by side":             {Fresh: 3, Head: impl.Table{High: 1600}, Held: helds{held(0, 0, 300, 5), held(1, 300, 400, 350), held(2, 900, 1000, 950)}},
		"Head where the last ends": {Fresh: 1, Head: impl.Table{Rows: rows{row("{a=x}", 100)}, High: 400}, Held: helds{held(0, 0, 100, 5)}},
		"six Tombs":                withTombs(twoHeld(), six...),
		"Before 1":                 {Fresh: 1, Head: impl.Table{High: 400}, Held: helds{held(0, 0, 100, 5)}, Tombs: tombs{tomb(1, "[]", 0, 10)}},
		"Before Fresh":             withTombs(twoHeld(), tomb(9, "[]", 0, 10)),
		"Before just above an Id":  withTombs(twoHeld(), tomb(4, "[]", 0, 10)),
		"times at their ends":      withTombs(twoHeld(), tomb(9, "[]", 0, 10000), tomb(9, "[]", 9999, 9999), tomb(9, "[]", 9999, 10000), tomb(9, "[]", 0, 0)),
		"ten rows in all":          parted(4, 6),
		"ten rows in a block":      parted(10, 0),
		"eleven, one taken away":   withTombs(parted(5, 6), tomb(1, "[a=c]", 0, 1)),
		"a thousand samples":       spread(impl.PointMax),
		"1001, one taken away":     withTombs(spread(impl.PointMax+1), tomb(1, "[]", 17, 18)),
		"1100, 100 forgotten":      withFloor(spread(impl.PointMax+100), 100),
	}
}

// broken is a store that is ok but for what a function does to it.
func broken(spoil func(s *impl.Store)) impl.Store {
	s := twoHeld()
	spoil(&s)
	return s
}

func wrongStores() map[string]impl.Store {
	out := map[string]impl.Store{
		"Next below 0":              broken(func(s *impl.Store) { s.Next = -1 }),
		"Next too great":            broken(func(s *impl.Store) { s.Next = impl.NumMax + 1 }),
		"Fresh below 0":             {Fresh: -1, Head: impl.TableNew()},
		"Fresh too great":           broken(func(s *impl.Store) { s.Fresh = impl.NumMax + 1 }),
		"61 blocks":                 {Fresh: 61, Head: impl.Table{High: 6400}, Held: basesHeld(61)},
		"blocks out of order":       broken(func(s *impl.Store) { s.Held[0], s.Held[1] = s.Held[1], s.Held[0] }),
		"a range twice":             broken(func(s *impl.Store) { s.Held[0].Block = block(100, 200, 160) }),
		"reaching into the next":    {Fresh: 2, Head: impl.Table{High: 1600}, Held: helds{held(0, 0, 300, 5), held(1, 200, 300, 250)}},
		"around the next":           {Fresh: 2, Head: impl.Table{High: 1600}, Held: helds{held(0, 0, 900, 5), held(1, 300, 600, 350)}},
		"around the one ahead":      {Fresh: 2, Head: impl.Table{High: 1600}, Held: helds{held(0, 0, 100, 5), held(1, 0, 300, 150)}},
		"the third reaching back":   {Fresh: 3, Head: impl.Table{High: 1600}, Held: helds{held(0, 0, 100, 5), held(1, 100, 200, 150), held(2, 0, 300, 250)}},
		"an Id below 0":             broken(func(s *impl.Store) { s.Held[0].Id = -1 }),
		"an Id that is Fresh":       broken(func(s *impl.Store) { s.Held[1].Id = 9 }),
		"Fresh an Id":               broken(func(s *impl.Store) { s.Fresh = 7 }),
		"Fresh 0":                   {Head: impl.Table{High: 400}, Held: helds{held(0, 0, 100, 5)}},
		"an Id twice":               broken(func(s *impl.Store) { s.Held[1].Id = 3 }),
		"ending at Floor":           {Fresh: 1, Head: impl.Table{High: 700, Floor: 100}, Held: helds{held(0, 0, 100, 5)}},
		"ending ahead of Floor":     {Fresh: 1, Head: impl.Table{High: 700, Floor: 200}, Held: helds{held(0, 0, 100, 5)}},
		"the first ending at Floor": {Fresh: 2, Head: impl.Table{High: 700, Floor: 100}, Held: helds{held(0, 0, 100, 5), held(1, 100, 200, 150)}},
		"one ahead of the bound":    {Fresh: 1, Head: impl.Table{High: 399}, Held: helds{held(0, 0, 100, 5)}},
		"High at Window":            {Fresh: 1, Head: impl.Table{High: 300}, Held: helds{held(0, 0, 100, 5)}},
		"High below Window":         {Fresh: 1, Head: impl.Table{High: 99}, Held: helds{held(0, 0, 100, 5)}},
		"no High":                   {Fresh: 1, Head: impl.TableNew(), Held: helds{held(0, 0, 100, 5)}},
		"around the bound":          {Fresh: 1, Head: impl.Table{High: 599}, Held: helds{held(0, 0, 300, 5)}},
		"nine around the bound":     {Fresh: 1, Head: impl.Table{High: 1199}, Held: helds{held(0, 0, 900, 5)}},
		"far behind the bound":      {Fresh: 1, Head: impl.Table{High: 700}, Held: helds{held(0, 500, 600, 550)}},
		"past the last bound":       {Fresh: 1, Head: impl.Table{High: impl.TimeMax}, Held: helds{held(0, 9600, 9700, 9600)}},
		"past the end of time":      {Fresh: 1, Head: impl.Table{High: impl.TimeMax}, Held: helds{held(0, 9900, 10000, 9999)}},
		"Head ahead of an end":      {Fresh: 1, Head: impl.Table{Rows: rows{row("{a=x}", 99)}, High: 400}, Held: helds{held(0, 0, 100, 5)}},
		"Head between blocks":       {Fresh: 2, Head: impl.Table{Rows: rows{row("{a=x}", 150)}, High: 900}, Held: helds{held(0, 0, 100, 5), held(1, 200, 300, 250)}},
		"a later row of Head":       broken(func(s *impl.Store) { s.Head.Rows[1].List[0].T = 199 }),
		"seven Tombs":               withTombs(twoHeld(), slices.Repeat(tombs{tomb(9, "[]", 5, 5)}, 7)...),
		"Before 0":                  withTombs(twoHeld(), tomb(0, "[]", 0, 10)),
		"Before below 0":            withTombs(twoHeld(), tomb(-1, "[]", 0, 10)),
		"Before above Fresh":        withTombs(twoHeld(), tomb(10, "[]", 0, 10)),
		"Before at the least Id":    withTombs(twoHeld(), tomb(3, "[]", 0, 10)),
		"Before below all Ids":      withTombs(twoHeld(), tomb(1, "[]", 0, 10)),
		"a later Before":            withTombs(twoHeld(), tomb(9, "[]", 0, 10), tomb(3, "[]", 0, 10)),
		"Tombs without blocks":      {Fresh: 9, Head: impl.Table{High: 700}, Tombs: tombs{tomb(9, "[]", 0, 10)}},
		"From below 0":              withTombs(twoHeld(), tomb(9, "[]", -1, 10)),
		"From too great":            withTombs(twoHeld(), tomb(9, "[]", 10000, 10000)),
		"To below From":             withTombs(twoHeld(), tomb(9, "[]", 10, 9)),
		"To too great":              withTombs(twoHeld(), tomb(9, "[]", 10, 10001)),
		"eleven rows in all":        parted(5, 6),
		"eleven, a tomb too early":  withTombs(broken(func(s *impl.Store) { *s = parted(5, 6); s.Fresh = 2; s.Held[0].Id = 1 }), tomb(2, "[a=c]", 1, 2)),
		"1001 samples in all":       spread(impl.PointMax + 1),
	}
	for what, x := range wrongTables() {
		out["Head, "+what] = impl.Store{Fresh: 3, Head: x}
	}
	for what, b := range wrongBlocks() {
		out["a block, "+what] = impl.Store{Fresh: 3, Head: impl.Table{High: impl.TimeMax}, Held: helds{{Id: 2, Block: b}}}
	}
	for what, list := range wrongMatches {
		out["Tombs, "+what] = withTombs(twoHeld(), impl.Tomb{Before: 9, List: list, From: 0, To: 10})
	}
	for _, n := range farNumbers {
		out[fmt.Sprint("Next ", n)] = broken(func(s *impl.Store) { s.Next = n })
		out[fmt.Sprint("Fresh ", n)] = broken(func(s *impl.Store) { s.Fresh = n })
		out[fmt.Sprint("an Id ", n)] = broken(func(s *impl.Store) { s.Held[0].Id = n })
		out[fmt.Sprint("Before ", n)] = withTombs(twoHeld(), tomb(n, "[]", 0, 10))
		out[fmt.Sprint("From ", n)] = withTombs(twoHeld(), tomb(9, "[]", n, 10))
		out[fmt.Sprint("To ", n)] = withTombs(twoHeld(), tomb(9, "[]", 0, n))
	}
	return out
}

func TestStoreOk(t *testing.T) {
	for what, s := range goodStores() {
		if !impl.StoreOk(s) || !plainStoreOk(s) {
			t.Errorf("%s: StoreOk is %v", what, impl.StoreOk(s))
		}
	}
	for what, s := range wrongStores() {
		if impl.StoreOk(s) {
			t.Errorf("%s: StoreOk is true", what)
		}
	}
}

func TestStoreOkOfManyStores(t *testing.T) {
	d := dice(909)
	fine := 0
	for range 6000 {
		s := spoiltStore(&d, twoHeld())
		want := plainStoreOk(s)
		if want {
			fine++
		}
		if got := impl.StoreOk(s); got != want {
			t.Fatalf("StoreOk(%v) is %v", s, got)
		}
	}
	if fine < 1000 || fine > 5000 {
		t.Errorf("%d stores were ok", fine)
	}
}

// spoiltStore has one or two of its numbers changed by a little, or much.
func spoiltStore(d *dice, s impl.Store) impl.Store {
	s = roomy(s)
	nums := []*int{&s.Next, &s.Fresh, &s.Head.High, &s.Head.Floor}
	for i := range s.Held {
		nums = append(nums, &s.Held[i].Id, &s.Held[i].Block.Low, &s.Held[i].Block.High)
	}
	for i := range s.Tombs {
		nums = append(nums, &s.Tombs[i].Before, &s.Tombs[i].From, &s.Tombs[i].To)
	}
	for _, row := range s.Head.Rows {
		nums = append(nums, &row.List[0].T)
	}
	for range 1 + d.below(2) {
		by := []int{1, 2, 3, 4, 5, 50, 100, 200, 250, 300, 500, 900, 9990}[d.below(13)]
		if d.below(2) == 0 {
			by = -by
		}
		*nums[d.below(len(nums))] += by
	}
	return s
}

func checkStoreAdd(t *testing.T, s impl.Store, batch entries) (impl.Store, writes, int) {
	t.Helper()
	want, list, wantCode := wantAdd(s, batch)
	got, told, code := impl.StoreAdd(s, batch)
	if code != wantCode || !sameStore(got, want) || !slices.Equal(told, list) {
		t.Fatalf("StoreAdd(%v, %v) is %v, %+v, %d, not %v, %+v, %d", s, batch, got, told, code, want, list, wantCode)
	}
	if !impl.StoreOk(got) {
		t.Fatalf("StoreAdd(%v, %v) is %v, which is not ok", s, batch, got)
	}
	table, tableCode := impl.TableAdd(tableOf(s), batch)
	if code == 0 && tableCode == 0 && !sameTable(tableOf(got), table) || code != tableCode && s.Next != impl.NumMax {
		t.Fatalf("StoreAdd(%v, %v) is %v, %d, not %v, %d as a table", s, batch, got, code, table, tableCode)
	}
	return got, told, code
}

func checkStoreDrop(t *testing.T, s impl.Store, rules matches, from, to int) (impl.Store, writes, int) {
	t.Helper()
	want, list, wantCode := wantDrop(s, rules, from, to)
	got, told, code := impl.StoreDrop(s, rules, from, to)
	if code != wantCode || !sameStore(got, want) || !slices.Equal(told, list) {
		t.Fatalf("StoreDrop(%v, %v, %d, %d) is %v, %+v, %d, not %v, %+v, %d", s, rules, from, to, got, told, code, want, list, wantCode)
	}
	if !impl.StoreOk(got) {
		t.Fatalf("StoreDrop(%v, %v, %d, %d) is %v, which is not ok", s, rules, from, to, got)
	}
	if code == 0 {
		if table := impl.TableDrop(tableOf(s), rules, from, to); !sameTable(tableOf(got), table) {
			t.Fatalf("StoreDrop(%v, %v, %d, %d) is %v, not %v as a table", s, rules, from, to, got, table)
		}
		if left := impl.StoreAsk(got, rules, from, to); left != nil {
			t.Fatalf("StoreDrop(%v, %v, %d, %d) leaves %v", s, rules, from, to, left)
		}
	}
	return got, told, code
}

func checkStoreKeep(t *testing.T, s impl.Store, age int) (impl.Store, writes, int) {
	t.Helper()
	want, list, wantCode := wantKeep(s, age)
	got, told, code := impl.StoreKeep(s, age)
	if code != wantCode || !sameStore(got, want) || !slices.Equal(told, list) {
		t.Fatalf("StoreKeep(%v, %d) is %v, %+v, %d, not %v, %+v, %d", s, age, got, told, code, want, list, wantCode)
	}
	if !impl.StoreOk(got) {
		t.Fatalf("StoreKeep(%v, %d) is %v, which is not ok", s, age, got)
	}
	if code == 0 {
		if table := impl.TableKeep(tableOf(s), age); !sameTable(tableOf(got), table) {
			t.Fatalf("StoreKeep(%v, %d) is %v, not %v as a table", s, age, got, table)
		}
	}
	return got, told, code
}

func checkStorePack(t *testing.T, s impl.Store) (impl.Store, writes) {
	t.Helper()
	want, list := wantPack(s)
	got, told := impl.StorePack(s)
	if !sameStore(got, want) || !slices.Equal(told, list) {
		t.Fatalf("StorePack(%v) is %v, %+v, not %v, %+v", s, got, told, want, list)
	}
	if !impl.StoreOk(got) {
		t.Fatalf("StorePack(%v) is %v, which is not ok", s, got)
	}
	return got, told
}

func someBatch(d *dice, s impl.Store, kinds int) entries {
	var batch entries
	for range 1 + d.below(impl.BatchMax) {
		batch = append(batch, someEntry(d, s.Head, kinds))
	}
	return batch
}

// someFineBatch is one that is mostly written, and goes on in time.
func someFineBatch(d *dice, s impl.Store) entries {
	var batch entries
	for range 1 + d.below(impl.BatchMax) {
		at := max(s.Head.Floor, s.Head.High-100, 0) + d.below(200)
		batch = append(batch, impl.Entry{Labels: fewLabels()[d.below(9)], T: min(at, impl.TimeMax), V: at % 7})
	}
	return batch
}

// someDrop is matches and times near what a store has.
func someDrop(d *dice, s impl.Store) (matches, int, int) {
	from := max(0, min(9999, s.Head.High-d.below(1500)))
	return someRules(d, 2), from, min(10000, from+d.below(900))
}

// someStep does something to a store, held against the plain one.
func someStep(t *testing.T, d *dice, s impl.Store, kinds int) (impl.Store, writes) {
	t.Helper()
	var list writes
	switch d.below(9) {
	case 0:
		rules, from, to := someDrop(d, s)
		s, list, _ = checkStoreDrop(t, s, rules, from, to)
	case 1:
		s, list, _ = checkStoreKeep(t, s, 300+d.below(3000))
	case 2:
		s, list = checkStorePack(t, s)
	case 3, 4, 5:
		s, list, _ = checkStoreAdd(t, s, someFineBatch(d, s))
	default:
		s, list, _ = checkStoreAdd(t, s, someBatch(d, s, kinds))
	}
	return s, list
}

// someStore is one to which something happened.
func someStore(t *testing.T, d *dice) impl.Store {
	t.Helper()
	s := newStore()
	for range 5 + d.below(60) {
		s, _ = someStep(t, d, s, 10)
	}
	return s
}

func TestP40StoresWriteWhatATableWould(t *testing.T) {
	d := dice(40)
	codes := map[int]int{}
	for range 60 {
		s := newStore()
		for range 60 {
			s, _ = someStep(t, &d, s, 14)
			_, list, code := checkStoreAdd(t, s, someBatch(&d, s, 14))
			codes[code]++
			if code == 0 != (len(list) == 1) {
				t.Fatalf("with the code %d there are %d writes", code, len(list))
			}
		}
	}
	for code := range 6 {
		if codes[code] < 50 {
			t.Errorf("the code %d came %d times", code, codes[code])
		}
	}
}

// storeCase is a store, entries, and the code that they must have.
type storeCase struct {
	what  string
	s     impl.Store
	batch entries
	code  int
}

func checkStoreCodes(t *testing.T, cases []storeCase) {
	t.Helper()
	for _, c := range cases {
		if _, _, code := checkStoreAdd(t, c.s, c.batch); code != c.code {
			t.Errorf("%s: the code is %d, not %d", c.what, code, c.code)
		}
	}
}

func TestP40CodesOfAllRows(t *testing.T) {
	s := twoHeld()
	checkStoreCodes(t, []storeCase{
		{"an entry", s, entries{entry("{c=z}", 750, 1)}, impl.AddFine},
		{"as old as may be", s, entries{entry("{a=x}", 451, 1)}, impl.AddFine},
		{"too old", s, entries{entry("{c=z}", 449, 1)}, impl.AddOld},
		{"too old, the same number in a block", s, entries{entry("{a=x}", 150, 150)}, impl.AddOld},
		{"the same number in Head", s, entries{entry("{a=x}", 450, 450)}, impl.AddFine},
		{"another number in Head", s, entries{entry("{a=x}", 450, 451)}, impl.AddOther},
		{"below Floor", withFloor(broken(func(s *impl.Store) { s.Head.Rows = nil; s.Held = nil; s.Tombs = nil }), 600), entries{entry("{a=x}", 599, 1)}, impl.AddOld},
		{"no labels", s, entries{entry("", 700, 1)}, impl.AddLabels},
		{"no number", s, entries{entry("{a=x}", 750, -1)}, impl.AddBad},
		{"no entries", s, nil, impl.AddBad},
		{"seven entries", s, slices.Repeat(entries{entry("{a=x}", 750, 1)}, 7), impl.AddBad},
		{"six entries", s, slices.Repeat(entries{entry("{a=x}", 750, 1)}, 6), impl.AddFine},
		{"none of the second", s, entries{entry("{a=x}", 800, 1), entry("{a=x}", 800, 2)}, impl.AddOther},
		{"the first moves the window", s, entries{entry("{a=x}", 1100, 1), entry("{a=x}", 799, 2)}, impl.AddOld},
		{"the first moves the window just so", s, entries{entry("{a=x}", 1100, 1), entry("{a=x}", 800, 2)}, impl.AddFine},
		{"the tenth row, of which blocks have some", parted(4, 5), entries{entry("{c=z}", 600, 1)}, impl.AddFine},
		{"the eleventh row, of which blocks have some", parted(5, 5), entries{entry("{c=z}", 600, 1)}, impl.AddMany},
		{"the eleventh row, of which blocks have all", parted(10, 0), entries{entry("{c=z}", 600, 1)}, impl.AddMany},
		{"a row that only a block has", parted(10, 0), entries{entry("{a=b}", 600, 1)}, impl.AddFine},
		{"a row that was taken away makes room", withTombs(parted(10, 0), tomb(1, "[a=c]", 0, 1)), entries{entry("{c=z}", 600, 1)}, impl.AddFine},
		{"a row taken away comes back", withTombs(parted(10, 0), tomb(1, "[a=c]", 0, 1)), entries{entry("{a=c}", 600, 1)}, impl.AddFine},
		{"the 1000th sample", spread(999), entries{entry("{a=x}", 1600, 1)}, impl.AddFine},
		{"the 1001st sample", spread(1000), entries{entry("{a=x}", 1600, 1)}, impl.AddMany},
		{"the 1001st, one was forgotten", withFloor(spread(1100), 100), entries{entry("{a=x}", 1600, 1)}, impl.AddMany},
		{"the 1000th, some were forgotten", withFloor(spread(1099), 100), entries{entry("{a=x}", 1600, 1)}, impl.AddFine},
	})
}

func TestP40NumbersOfRecords(t *testing.T) {
	last, end := twoHeld(), twoHeld()
	last.Next, end.Next = impl.NumMax-1, impl.NumMax
	fine := entries{entry("{a=x}", 750, 1)}
	if got, list, code := checkStoreAdd(t, last, fine); code != impl.AddFine || got.Next != impl.NumMax || !strings.HasPrefix(list[0].Text, "9998 ") {
		t.Errorf("the last number: %v, %+v, %d", got, list, code)
	}
	checkStoreCodes(t, []storeCase{
		{"no number any more", end, fine, impl.AddMany},
		{"no number any more, too old", end, entries{entry("{a=x}", 5, 1)}, impl.AddOld},
		{"no number any more, another number", end, entries{entry("{a=x}", 450, 1)}, impl.AddOther},
		{"no number any more, no labels", end, entries{entry("", 450, 1)}, impl.AddLabels},
		{"no number any more, no entries", end, nil, impl.AddBad},
	})
	for what, s := range goodStores() {
		got, list, code := checkStoreAdd(t, s, entries{entry("{a=x}", impl.TimeMax, 1)})
		if code == impl.AddFine && (got.Next != s.Next+1 || got.Fresh != s.Fresh || len(list) != 1 || list[0].Id != 0) {
			t.Errorf("%s: %v, %+v", what, got, list)
		}
	}
}

func TestP40P41P43P44P47StoresThatAreNotOk(t *testing.T) {
	fine := entries{entry("{a=x}", 750, 1)}
	for what, s := range wrongStores() {
		for _, batch := range []entries{fine, nil, {entry("", 1, 1)}} {
			if got, list, code := impl.StoreAdd(s, batch); code != impl.AddBad || list != nil || !sameStore(got, impl.Store{}) {
				t.Errorf("%s: StoreAdd is %v, %+v, %d", what, got, list, code)
			}
		}
		for _, rules := range []matches{nil, wrongMatches["five"]} {
			if got, list, code := impl.StoreDrop(s, rules, 0, 100); code != impl.AddBad || list != nil || !sameStore(got, impl.Store{}) {
				t.Errorf("%s: StoreDrop is %v, %+v, %d", what, got, list, code)
			}
			if got := impl.StoreAsk(s, rules, 0, 10000); got != nil {
				t.Errorf("%s: StoreAsk is %v", what, got)
			}
		}
		for _, age := range []int{-1, 0, 100, 10000} {
			if got, list, code := impl.StoreKeep(s, age); code != impl.AddBad || list != nil || !sameStore(got, impl.Store{}) {
				t.Errorf("%s: StoreKeep is %v, %+v, %d", what, got, list, code)
			}
		}
		if got, list := impl.StorePack(s); list != nil || !sameStore(got, impl.Store{}) {
			t.Errorf("%s: StorePack is %v, %+v", what, got, list)
		}
		if got := impl.StoreList(s); got != "" {
			t.Errorf("%s: StoreList is %q", what, got)
		}
	}
}

func TestP41StoresDropWhatATableWould(t *testing.T) {
	d := dice(41)
	went, refused := 0, 0
	for range 40 {
		s := newStore()
		for range 60 {
			s, _ = someStep(t, &d, s, 10)
			rules, from, to := someDrop(&d, s)
			got, list, code := checkStoreDrop(t, s, rules, from, to)
			switch {
			case code != 0 && list != nil:
				t.Fatalf("with the code %d there is %+v", code, list)
			case code != 0:
				refused++
			case len(list) != 1:
				t.Fatalf("there are %d writes", len(list))
			case !sameTable(tableOf(got), tableOf(s)):
				went++
			}
		}
	}
	if went < 300 || refused < 10 {
		t.Errorf("something went %d times, and was refused %d times", went, refused)
	}
}

func TestP41Codes(t *testing.T) {
	six := withTombs(twoHeld(), slices.Repeat(tombs{tomb(9, "[]", 5, 5)}, impl.TombMax)...)
	five := withTombs(twoHeld(), slices.Repeat(tombs{tomb(9, "[]", 5, 5)}, impl.TombMax-1)...)
	end, last := twoHeld(), twoHeld()
	end.Next, last.Next = impl.NumMax, impl.NumMax-1
	none := impl.Store{Head: impl.Table{Rows: rows{row("{a=x}", 5, 600)}, High: 700}}
	cases := []struct {
		what     string
		s        impl.Store
		from, to int
		code     int
	}{
		{"some time", twoHeld(), 5, 100, impl.AddFine},
		{"no time", twoHeld(), 5, 5, impl.AddFine},
		{"all times", twoHeld(), 0, 10000, impl.AddFine},
		{"the last time", twoHeld(), 9999, 10000, impl.AddFine},
		{"no time at the end", twoHeld(), 9999, 9999, impl.AddFine},
		{"To below From", twoHeld(), 5, 4, impl.AddBad},
		{"From below 0", twoHeld(), -1, 4, impl.AddBad},
		{"From too great", twoHeld(), 10000, 10000, impl.AddBad},
		{"To too great", twoHeld(), 5, 10001, impl.AddBad},
		{"To below 0", twoHeld(), 0, -1, impl.AddBad},
		{"the sixth of Tombs", five, 0, 100, impl.AddFine},
		{"the seventh of Tombs", six, 0, 100, impl.AddMany},
		{"the seventh of Tombs, wrong times", six, 5, 4, impl.AddBad},
		{"the last number", last, 0, 100, impl.AddFine},
		{"no number any more", end, 0, 100, impl.AddMany},
		{"no number any more, wrong times", end, 5, 4, impl.AddBad},
		{"no blocks", none, 0, 100, impl.AddFine},
		{"new", newStore(), 0, 100, impl.AddFine},
	}
	for _, c := range cases {
		for text, rules := range goodMatches {
			if _, _, code := checkStoreDrop(t, c.s, rules, c.from, c.to); code != c.code {
				t.Errorf("%s, %s: the code is %d, not %d", c.what, text, code, c.code)
			}
		}
		for what, rules := range wrongMatches {
			if _, _, code := checkStoreDrop(t, c.s, rules, c.from, c.to); code != impl.AddBad {
				t.Errorf("%s, matches %s: the code is %d", c.what, what, code)
			}
		}
	}
	for _, n := range farNumbers {
		for _, times := range [][2]int{{n, n}, {0, n}, {n, 100}} {
			if _, _, code := checkStoreDrop(t, twoHeld(), nil, times[0], times[1]); code != impl.AddBad {
				t.Errorf("%v: the code is %d", times, code)
			}
		}
	}
}

func TestP41WhatTombsAreMade(t *testing.T) {
	none := impl.Store{Fresh: 4, Head: impl.Table{Rows: rows{row("{a=x}", 5, 600)}, High: 700}}
	for range 10 {
		next, _, code := checkStoreDrop(t, none, nil, 0, 100)
		if code != 0 || next.Tombs != nil {
			t.Fatalf("without blocks there is %v, %d", next, code)
		}
		none = next
	}
	s, _, _ := checkStoreDrop(t, twoHeld(), nil, 40, 500)
	if got := storeShort(s); got != "3:0-100{a=x}5,50 7:100-200{a=x}150 t4[a=x]0-10 t9[]40-500 head{a=x}700{b=y}600" {
		t.Errorf("it is %s", got)
	}
	if got := rowsShort(impl.StoreAsk(s, nil, 0, 10000)); got != "{a=x}700{b=y}600" {
		t.Errorf("%s is told", got)
	}
}

// checkTold says that a number is told of labels at a time.
func checkTold(t *testing.T, what string, s impl.Store, e impl.Entry) {
	t.Helper()
	told := plainOf(impl.StoreAsk(s, nil, e.T, e.T+1))
	if got, there := told[labelsText(e.Labels)][e.T]; !there || got != e.V {
		t.Fatalf("%s: %v is not told of %v", what, e, s)
	}
}

func TestP42WhatIsWrittenBehindADropIsNotDropped(t *testing.T) {
	d := dice(42)
	again := 0
	for range 150 {
		s := someStore(t, &d)
		if s.Head.High < 0 || s.Head.High > 8000 || len(s.Tombs) == impl.TombMax {
			continue
		}
		e := impl.Entry{Labels: fewLabels()[d.below(5)], T: s.Head.High, V: 77}
		s, _, code := checkStoreDrop(t, s, nil, 0, 10000)
		if code != 0 {
			t.Fatalf("nothing is dropped of %v: %d", s, code)
		}
		for step := range 12 {
			var code int
			if s, _, code = checkStoreAdd(t, s, entries{e}); code != 0 {
				t.Fatalf("%v is not written: %d", e, code)
			}
			checkTold(t, "at once", s, e)
			s, _ = checkStorePack(t, s)
			checkTold(t, "packed", s, e)
			later := impl.Entry{Labels: fewLabels()[8], T: e.T + 100*step, V: 5}
			if s, _, code = checkStoreAdd(t, s, entries{later}); code != 0 {
				t.Fatalf("%v is not written: %d", later, code)
			}
			s, _ = checkStorePack(t, s)
			checkTold(t, "packed again", s, e)
			if len(s.Held) > 0 && s.Held[len(s.Held)-1].Block.High > e.T {
				again++
				break
			}
		}
	}
	if again < 50 {
		t.Errorf("an entry came into a block %d times", again)
	}
}

func TestP42OneByOne(t *testing.T) {
	a := labelsOf("a", "x")
	s, _, _ := impl.StoreAdd(newStore(), entries{{Labels: a, T: 10, V: 1}, {Labels: a, T: 110, V: 1}, {Labels: a, T: 250, V: 1}})
	s, _, _ = impl.StoreAdd(s, entries{{Labels: a, T: 520, V: 1}})
	s, _ = checkStorePack(t, s)
	s, _, _ = checkStoreDrop(t, s, nil, 0, 10000)
	if got := impl.StoreAsk(s, nil, 0, 10000); got != nil {
		t.Fatalf("%v is left", got)
	}
	for _, at := range []int{520, 250, 220} {
		next, _, code := checkStoreAdd(t, s, entries{{Labels: a, T: at, V: 9}})
		if code != 0 {
			t.Fatalf("at %d the code is %d", at, code)
		}
		checkTold(t, "at once", next, impl.Entry{Labels: a, T: at, V: 9})
		next, _ = checkStorePack(t, next)
		checkTold(t, "packed", next, impl.Entry{Labels: a, T: at, V: 9})
		next, _, code = checkStoreAdd(t, next, entries{{Labels: a, T: 820, V: 3}})
		if code != 0 {
			t.Fatalf("behind %d the code is %d", at, code)
		}
		for range 2 {
			next, _ = checkStorePack(t, next)
			checkTold(t, "packed again", next, impl.Entry{Labels: a, T: at, V: 9})
		}
		if all := rowsShort(impl.StoreAsk(next, nil, 0, 10000)); all != fmt.Sprintf("{a=x}%d,820", at) {
			t.Errorf("%s is told", all)
		}
	}
}

func TestP43StoresForgetWhatATableWould(t *testing.T) {
	d := dice(43)
	went := 0
	for range 40 {
		s := newStore()
		for range 70 {
			s, _ = someStep(t, &d, s, 10)
			got, list, _ := checkStoreKeep(t, s, d.below(2500)-50)
			var gone []int
			for _, w := range list[min(1, len(list)):] {
				gone = append(gone, w.Id)
			}
			left := idsOf(got)
			if slices.Sort(left); !slices.Equal(eitherOf(left, gone), eitherOf(idsOf(s), nil)) || len(left)+len(gone) != len(s.Held) {
				t.Fatalf("of %v there are %v left, and %v go", s, left, gone)
			}
			went += len(gone)
		}
	}
	if went < 200 {
		t.Errorf("%d blocks went", went)
	}
}

func TestP43Ages(t *testing.T) {
	s := impl.Store{
		Next: 4, Fresh: 9,
		Head:  impl.Table{Rows: rows{row("{a=x}", 600, 699, 700, 950)}, High: 950},
		Held:  helds{held(6, 0, 300, 5, 250), held(2, 300, 400, 350), held(8, 400, 500, 450)},
		Tombs: tombs{tomb(3, "[]", 0, 10), tomb(7, "[]", 5, 6), tomb(9, "[]", 9, 10)},
	}
	cases := []struct {
		age, code int
		want      string
		gone      []int
	}{
		{-1, impl.AddBad, "6:0-300{a=x}5,250 2:300-400{a=x}350 8:400-500{a=x}450 t3[]0-10 t7[]5-6 t9[]9-10 head{a=x}600,699,700,950", nil},
		{math.MinInt, impl.AddBad, "6:0-300{a=x}5,250 2:300-400{a=x}350 8:400-500{a=x}450 t3[]0-10 t7[]5-6 t9[]9-10 head{a=x}600,699,700,950", nil},
		{math.MaxInt, impl.AddFine, "6:0-300{a=x}5,250 2:300-400{a=x}350 8:400-500{a=x}450 t3[]0-10 t7[]5-6 t9[]9-10 head{a=x}600,699,700,950", nil},
		{951, impl.AddFine, "6:0-300{a=x}5,250 2:300-400{a=x}350 8:400-500{a=x}450 t3[]0-10 t7[]5-6 t9[]9-10 head{a=x}600,699,700,950", nil},
		{851, impl.AddFine, "6:0-300{a=x}5,250 2:300-400{a=x}350 8:400-500{a=x}450 t3[]0-10 t7[]5-6 t9[]9-10 head{a=x}600,699,700,950", nil},
		{850, impl.AddFine, "6:0-300{a=x}5,250 2:300-400{a=x}350 8:400-500{a=x}450 t3[]0-10 t7[]5-6 t9[]9-10 head{a=x}600,699,700,950", nil},
		{651, impl.AddFine, "6:0-300{a=x}5,250 2:300-400{a=x}350 8:400-500{a=x}450 t3[]0-10 t7[]5-6 t9[]9-10 head{a=x}600,699,700,950", nil},
		{650, impl.AddFine, "2:300-400{a=x}350 8:400-500{a=x}450 t3[]0-10 t7[]5-6 t9[]9-10 head{a=x}600,699,700,950", []int{6}},
		{550, impl.AddFine, "8:400-500{a=x}450 t9[]9-10 head{a=x}600,699,700,950", []int{6, 2}},
		{451, impl.AddFine, "8:400-500{a=x}450 t9[]9-10 head{a=x}600,699,700,950", []int{6, 2}},
		{450, impl.AddFine, "head{a=x}600,699,700,950", []int{6, 2, 8}},
		{250, impl.AddFine, "head{a=x}700,950", []int{6, 2, 8}},
		{0, impl.AddFine, "head{a=x}950", []int{6, 2, 8}},
	}
	for _, c := range cases {
		got, list, code := checkStoreKeep(t, s, c.age)
		if code != c.code || storeShort(got) != c.want {
			t.Errorf("age %d: %s, %d", c.age, storeShort(got), code)
		}
		var gone []int
		for _, w := range list {
			if w.Kind == impl.WriteGone {
				gone = append(gone, w.Id)
			}
		}
		if !slices.Equal(gone, c.gone) {
			t.Errorf("age %d: %v go", c.age, gone)
		}
		if again, more, code := checkStoreKeep(t, got, max(0, c.age)); c.code == 0 && (code != 0 || more != nil || !sameStore(again, got)) {
			t.Errorf("age %d again: %v, %+v, %d", c.age, again, more, code)
		}
	}
}

func TestP43CodesInTheirOrder(t *testing.T) {
	end, last := twoHeld(), twoHeld()
	end.Next, last.Next = impl.NumMax, impl.NumMax-1
	cases := []struct {
		what      string
		s         impl.Store
		age, code int
		wrote     int
	}{
		{"the last number", last, 600, impl.AddFine, 2},
		{"no number any more", end, 600, impl.AddMany, 0},
		{"no number any more, Floor as it was", end, 700, impl.AddFine, 0},
		{"no number any more, age below 0", end, -1, impl.AddBad, 0},
		{"Floor as it was", twoHeld(), 651, impl.AddFine, 0},
		{"Floor one base on", twoHeld(), 650, impl.AddFine, 2},
		{"new", newStore(), 0, impl.AddFine, 0},
		{"new, age below 0", newStore(), -1, impl.AddBad, 0},
	}
	for _, c := range cases {
		got, list, code := checkStoreKeep(t, c.s, c.age)
		if code != c.code || len(list) != c.wrote || c.wrote == 0 && !sameStore(got, c.s) {
			t.Errorf("%s: %v, %+v, %d", c.what, got, list, code)
		}
	}
	for _, s := range goodStores() {
		for _, age := range append([]int{-1, 0, 1, 100, 300, 9999, 10000}, farNumbers...) {
			checkStoreKeep(t, s, age)
		}
	}
}

// checkPacked is what the promises say of a store that is packed, in their own words.
func checkPacked(t *testing.T, s impl.Store) {
	t.Helper()
	got, _ := checkStorePack(t, s)
	if got.Head.High != s.Head.High || got.Head.Floor != s.Head.Floor || got.Next != s.Next {
		t.Fatalf("StorePack(%v) is %v", s, got)
	}
	if a, b := impl.StoreAsk(s, nil, 0, 10000), impl.StoreAsk(got, nil, 0, 10000); !sameRows(a, b) {
		t.Fatalf("StorePack(%v) tells %v, not %v", s, b, a)
	}
	if s.Fresh > impl.NumMax-4*impl.HeldMax {
		return
	}
	bound := plainBound(s.Head.High)
	if ahead := impl.RowsAsk(got.Head.Rows, nil, 0, bound); ahead != nil {
		t.Fatalf("StorePack(%v) leaves %v in Head", s, ahead)
	}
	for i := 1; i < len(got.Held); i++ {
		low, high := got.Held[i-1].Block.Low, got.Held[i].Block.High
		for _, wide := range []int{300, 900} {
			if end := low/wide*wide + wide; high <= end && end <= bound {
				t.Fatalf("StorePack(%v) leaves two blocks from %d to %d: %v", s, end-wide, end, got)
			}
		}
	}
	again, list := checkStorePack(t, got)
	if got.Fresh > impl.NumMax-4*impl.HeldMax {
		return
	}
	if !sameStore(again, got) || len(list) != 2 || list[0].Kind != impl.WriteList || list[0].Text != impl.StoreList(got) || list[1].Kind != impl.WriteCut {
		t.Fatalf("StorePack(%v) again is %v, %+v", got, again, list)
	}
}

func TestP44P45P46PackingChangesNothingThatIsTold(t *testing.T) {
	d := dice(44)
	for range 60 {
		s := newStore()
		for range 50 {
			s, _ = someStep(t, &d, s, 10)
			checkPacked(t, s)
		}
	}
	for _, s := range goodStores() {
		checkPacked(t, s)
	}
}

// packCase is a store, and what it must be packed, and wrote: the Ids of files, and of those that go.
type packCase struct {
	what       string
	s          impl.Store
	want       string
	files, out []int
	fresh      int
}

func checkPackCases(t *testing.T, cases []packCase) {
	t.Helper()
	for _, c := range cases {
		checkPacked(t, c.s)
		got, list := checkStorePack(t, c.s)
		if storeShort(got) != c.want || got.Fresh != c.fresh {
			t.Errorf("%s: it is %s, Fresh %d", c.what, storeShort(got), got.Fresh)
		}
		var files, out []int
		for _, w := range list {
			switch w.Kind {
			case impl.WriteFile:
				files = append(files, w.Id)
			case impl.WriteGone:
				out = append(out, w.Id)
			}
		}
		if !slices.Equal(files, c.files) || !slices.Equal(out, c.out) {
			t.Errorf("%s: files %v are written, %v go", c.what, files, out)
		}
	}
}

// inHead is a store with samples of one row in Head alone.
func inHead(high int, times ...int) impl.Store {
	return impl.Store{Fresh: 5, Head: impl.Table{Rows: rows{row("{a=x}", times...)}, High: high}}
}

func TestP44WhatIsCutFromHead(t *testing.T) {
	checkPackCases(t, []packCase{
		{"High below Window", inHead(299, 5, 299), "head{a=x}5,299", nil, nil, 5},
		{"High at Window", inHead(300, 5, 299), "head{a=x}5,299", nil, nil, 5},
		{"High one ahead of a base", inHead(399, 0, 5, 299), "head{a=x}0,5,299", nil, nil, 5},
		{"High a base on", inHead(400, 0, 5, 99, 100, 299), "5:0-100{a=x}0,5,99 head{a=x}100,299", []int{5}, nil, 6},
		{"not a base more", inHead(499, 0, 5, 99, 100, 299), "5:0-100{a=x}0,5,99 head{a=x}100,299", []int{5}, nil, 6},
		{"two bases", inHead(500, 99, 100, 199, 200), "5:0-100{a=x}99 6:100-200{a=x}100,199 head{a=x}200", []int{5, 6}, nil, 7},
		{"a base in which nothing is", inHead(500, 100, 199, 200), "5:100-200{a=x}100,199 head{a=x}200", []int{5}, nil, 6},
		{"all of it", inHead(9999, 5000), "5:5000-5100{a=x}5000 head", []int{5}, nil, 6},
		{"up to the last bound", inHead(9999, 9599, 9600, 9999), "5:9500-9600{a=x}9599 head{a=x}9600,9999", []int{5}, nil, 6},
		{"none ahead of the bound", inHead(900, 600, 700), "head{a=x}600,700", nil, nil, 5},
	})
}

func TestP45RangesOfThreeAndNine(t *testing.T) {
	checkPackCases(t, []packCase{
		{"three that end at the bound", inHead(600, 50, 150, 250, 300), "8:0-300{a=x}50,150,250 head{a=x}300", []int{8}, nil, 9},
		{"three that end behind it", inHead(599, 50, 150, 250, 300), "5:0-100{a=x}50 6:100-200{a=x}150 head{a=x}250,300", []int{5, 6}, nil, 7},
		{"two of three", inHead(600, 50, 250, 300), "7:0-300{a=x}50,250 head{a=x}300", []int{7}, nil, 8},
		{"one of three", inHead(600, 150, 300), "5:100-200{a=x}150 head{a=x}300", []int{5}, nil, 6},
		{"two that are not in one range", inHead(900, 250, 350), "5:200-300{a=x}250 6:300-400{a=x}350 head", []int{5, 6}, nil, 7},
		{"two ranges of three", inHead(900, 50, 150, 350, 550), "9:0-300{a=x}50,150 10:300-600{a=x}350,550 head", []int{9, 10}, nil, 11},
		{"two ranges, and one beside", inHead(1000, 50, 150, 350, 550, 650), "10:0-300{a=x}50,150 11:300-600{a=x}350,550 9:600-700{a=x}650 head", []int{10, 11, 9}, nil, 12},
		{"nine that end at the bound", inHead(1200, 50, 450, 850, 900), "8:0-900{a=x}50,450,850 head{a=x}900", []int{8}, nil, 9},
		{"nine that end behind it", inHead(1199, 50, 450, 750, 850, 900), "5:0-100{a=x}50 6:400-500{a=x}450 7:700-800{a=x}750 head{a=x}850,900", []int{5, 6, 7}, nil, 8},
		{"threes, and then nine", inHead(1200, 50, 150, 350, 550), "11:0-900{a=x}50,150,350,550 head", []int{11}, nil, 12},
		{"one of nine", inHead(1200, 450), "5:400-500{a=x}450 head", []int{5}, nil, 6},
		{"one three of nine", inHead(1200, 350, 450), "7:300-600{a=x}350,450 head", []int{7}, nil, 8},
		{"two nines", inHead(2100, 50, 350, 950, 1750), "9:0-900{a=x}50,350 10:900-1800{a=x}950,1750 head", []int{9, 10}, nil, 11},
	})
}

// heldStore has blocks under numbers from 2 on, and a Head that is empty.
func heldStore(high, floor int, list ...impl.Held) impl.Store {
	return impl.Store{Fresh: 20, Head: impl.Table{High: high, Floor: floor}, Held: list}
}

func TestP45BlocksThatWereThere(t *testing.T) {
	three := heldStore(600, 0, held(7, 0, 100, 5), held(3, 100, 200, 150), held(11, 200, 300, 250))
	more := three
	more.Head.Rows = rows{row("{a=x}", 300)}
	checkPackCases(t, []packCase{
		{"three", three, "20:0-300{a=x}5,150,250 head", []int{20}, []int{7, 3, 11}, 21},
		{"three, and Head", more, "20:0-300{a=x}5,150,250 head{a=x}300", []int{20}, []int{7, 3, 11}, 21},
		{"two and one from Head", impl.Store{Fresh: 20, Head: impl.Table{Rows: rows{row("{a=x}", 250, 350)}, High: 600}, Held: three.Held[:2]}, "21:0-300{a=x}5,150,250 head{a=x}350", []int{21}, []int{7, 3}, 22},
		{"one that stays", heldStore(600, 0, held(7, 0, 100, 5)), "7:0-100{a=x}5 head", nil, nil, 20},
		{"one and one from Head", impl.Store{Fresh: 20, Head: impl.Table{Rows: rows{row("{a=x}", 450)}, High: 800}, Held: helds{held(7, 0, 100, 5)}}, "7:0-100{a=x}5 20:400-500{a=x}450 head", []int{20}, nil, 21},
		{"threes to nine", heldStore(1200, 0, held(7, 0, 300, 5), held(3, 600, 900, 650)), "20:0-900{a=x}5,650 head", []int{20}, []int{7, 3}, 21},
		{"a three and a base to nine", heldStore(1200, 0, held(7, 0, 300, 5), held(3, 600, 700, 650)), "20:0-900{a=x}5,650 head", []int{20}, []int{7, 3}, 21},
		{"a nine stays", heldStore(2100, 0, held(7, 0, 900, 5), held(3, 900, 1800, 950)), "7:0-900{a=x}5 3:900-1800{a=x}950 head", nil, nil, 20},
		{"a nine stays beside what is joined", heldStore(2100, 0, held(7, 0, 900, 5), held(3, 900, 1000, 950), held(4, 1000, 1100, 1050)), "7:0-900{a=x}5 20:900-1200{a=x}950,1050 head", []int{20}, []int{3, 4}, 21},
		{"the first goes behind the second", heldStore(1600, 0, held(7, 0, 100, 5), held(3, 200, 300, 250), held(4, 900, 1000, 950)), "20:0-300{a=x}5,250 4:900-1000{a=x}950 head", []int{20}, []int{7, 3}, 21},
	})
}

func TestP45WhatIsNotLiveAnyMore(t *testing.T) {
	two := func(high, floor int, list ...impl.Tomb) impl.Store {
		return withTombs(heldStore(high, floor, held(7, 0, 100, 5, 50), held(3, 100, 200, 150)), list...)
	}
	wide := heldStore(1200, 200, held(7, 0, 300, 5), held(3, 300, 600, 350))
	checkPackCases(t, []packCase{
		{"all is taken away", two(600, 0, tomb(20, "[]", 0, 200)), "head", nil, []int{7, 3}, 20},
		{"all is taken away, one by one", two(600, 0, tomb(8, "[]", 0, 100), tomb(4, "[]", 150, 151)), "head", nil, []int{7, 3}, 20},
		{"all of the first", two(600, 0, tomb(8, "[a=x]", 0, 100)), "20:0-300{a=x}150 head", []int{20}, []int{7, 3}, 21},
		{"all of the second", two(600, 0, tomb(4, "[a=x]", 0, 200)), "20:0-300{a=x}5,50 head", []int{20}, []int{7, 3}, 21},
		{"some of the first", two(600, 0, tomb(20, "[a=x]", 0, 50)), "20:0-300{a=x}50,150 head", []int{20}, []int{7, 3}, 21},
		{"none of it: other labels", two(600, 0, tomb(20, "[a=y]", 0, 50)), "20:0-300{a=x}5,50,150 head", []int{20}, []int{7, 3}, 21},
		{"none of it: a lesser number", two(600, 0, tomb(4, "[]", 0, 100)), "20:0-300{a=x}5,50,150 head", []int{20}, []int{7, 3}, 21},
		{"not joined: what is taken away stays so", two(599, 0, tomb(20, "[]", 0, 200)), "7:0-100{a=x}5,50 3:100-200{a=x}150 t20[]0-200 head", nil, nil, 20},
		{"what is left needs one of Tombs", withTombs(heldStore(1000, 0, held(7, 0, 100, 5), held(9, 100, 200, 150), held(8, 400, 500, 450)), tomb(8, "[]", 0, 1), tomb(9, "[]", 2, 3), tomb(20, "[]", 4, 5)), "20:0-300{a=x}5,150 8:400-500{a=x}450 t9[]2-3 t20[]4-5 head", []int{20}, []int{7, 9}, 21},
		{"one alone is left as it is", withTombs(heldStore(600, 0, held(7, 0, 100, 5)), tomb(20, "[]", 0, 100)), "7:0-100{a=x}5 t20[]0-100 head", nil, nil, 20},
		{"forgotten in part", heldStore(1200, 200, held(7, 0, 300, 5, 250), held(3, 300, 600, 350)), "20:0-900{a=x}250,350 head", []int{20}, []int{7, 3}, 21},
		{"all of the first is forgotten", wide, "20:0-900{a=x}350 head", []int{20}, []int{7, 3}, 21},
		{"all is forgotten, or taken away", withTombs(wide, tomb(4, "[]", 300, 400)), "head", nil, []int{7, 3}, 20},
	})
}

func TestP45PackedOnceOrBitByBit(t *testing.T) {
	d := dice(45)
	for range 40 {
		once, often := newStore(), newStore()
		for at := 0; at < 3000; at += 20 + d.below(80) {
			batch := entries{{Labels: fewLabels()[d.below(9)], T: at, V: d.below(9)}}
			once, _, _ = impl.StoreAdd(once, batch)
			often, _, _ = impl.StoreAdd(often, batch)
			often, _ = checkStorePack(t, often)
		}
		once, _ = checkStorePack(t, once)
		if !sameTable(tableOf(once), tableOf(often)) || len(once.Held) != len(often.Held) {
			t.Fatalf("%v is not %v", once, often)
		}
		for i := range once.Held {
			if !sameBlock(once.Held[i].Block, often.Held[i].Block) {
				t.Fatalf("%v is not %v", once.Held[i], often.Held[i])
			}
		}
	}
}

func TestP44P45HowManyAreHeld(t *testing.T) {
	for _, n := range []int{59, 60, 61, 96} {
		s := inHead(9999, upTo(50, n, 100)...)
		checkPacked(t, s)
		got, list := checkStorePack(t, s)
		if got.Head.Rows != nil || len(got.Held) > 14 || len(list) != len(got.Held)+2 {
			t.Errorf("of %d bases there are %d blocks, and %d writes", n, len(got.Held), len(list))
		}
	}
	full := impl.Store{Fresh: 60, Head: impl.Table{Rows: rows{row("{a=x}", upTo(6050, 35, 100)...)}, High: 9999}, Held: basesHeld(60)}
	if got, list := checkStorePack(t, full); got.Head.Rows != nil || len(got.Held) > 14 || len(list) != len(got.Held)+2+60 {
		t.Errorf("of sixty blocks and Head there are %d, and %d writes", len(got.Held), len(list))
	}
}

func TestP44P45NumbersOfBlocks(t *testing.T) {
	most := impl.NumMax - 4*impl.HeldMax
	for _, fresh := range []int{most - 1, most, most + 1, impl.NumMax - 1, impl.NumMax} {
		s := inHead(1200, 50, 150, 350, 900)
		s.Fresh = fresh
		checkPacked(t, s)
		got, list := checkStorePack(t, s)
		if fresh <= most {
			if got.Fresh != fresh+5 || len(got.Held) != 1 || got.Held[0].Id != fresh+4 || len(list) != 3 {
				t.Errorf("Fresh %d: %v, %+v", fresh, got, list)
			}
			continue
		}
		if list != nil || !sameStore(got, s) {
			t.Errorf("Fresh %d: %v, %+v", fresh, got, list)
		}
	}
	s := inHead(9999, upTo(50, 96, 100)...)
	s.Fresh = most
	if got, _ := checkStorePack(t, s); got.Fresh > impl.NumMax {
		t.Errorf("Fresh is %d", got.Fresh)
	}
}

func TestP46WritesInTheirOrder(t *testing.T) {
	d := dice(46)
	wrote := map[int]int{}
	for range 200 {
		s := someStore(t, &d)
		got, list := checkStorePack(t, s)
		order := ""
		for _, w := range list {
			wrote[w.Kind]++
			order += fmt.Sprint(w.Kind)
			switch w.Kind {
			case impl.WriteFile:
				at := slices.Index(idsOf(got), w.Id)
				if at < 0 || slices.Contains(idsOf(s), w.Id) || w.Text != impl.BlockPut(got.Held[at].Block) {
					t.Fatalf("%+v is no new block of %v", w, got)
				}
			case impl.WriteList:
				if w.Id != 0 || w.Text != impl.StoreList(got) {
					t.Fatalf("%+v is not the list of %v", w, got)
				}
			case impl.WriteGone:
				if w.Text != "" || !slices.Contains(idsOf(s), w.Id) || slices.Contains(idsOf(got), w.Id) {
					t.Fatalf("%+v is no block that is gone of %v", w, got)
				}
			}
		}
		if left := strings.TrimRight(strings.TrimLeft(order, "2"), "5"); left != "34" {
			t.Fatalf("the writes are %s", order)
		}
	}
	if wrote[impl.WriteFile] < 50 || wrote[impl.WriteGone] < 50 {
		t.Errorf("there were %v writes", wrote)
	}
}

func TestP47WhatIsToldOfSomeTime(t *testing.T) {
	d := dice(47)
	for range 150 {
		s := someStore(t, &d)
		all := impl.StoreAsk(s, nil, 0, 10000)
		table := tableOf(s)
		if !sameRows(all, table.Rows) || !impl.TableOk(impl.Table{Rows: all, High: s.Head.High, Floor: s.Head.Floor}) {
			t.Fatalf("%v tells %v, not %v", s, all, table)
		}
		for range 10 {
			rules, from, to := someDrop(&d, s)
			want, _ := plainOf(all).split(rules, from, to)
			if got := impl.StoreAsk(s, rules, from, to); !sameRows(got, want) || !sameRows(got, impl.RowsAsk(all, rules, from, to)) {
				t.Fatalf("StoreAsk(%v, %v, %d, %d) is %v, not %v", s, rules, from, to, got, want)
			}
		}
	}
	for what, s := range goodStores() {
		if got := impl.StoreAsk(s, nil, 0, 10000); !sameRows(got, tableOf(s).Rows) {
			t.Errorf("%s: %v is told", what, got)
		}
	}
}

func TestP47EdgesAndMatches(t *testing.T) {
	s := impl.Store{
		Fresh: 9,
		Head:  impl.Table{Rows: rows{row("{a=x}", 450, 700), row("{b=y}", 600)}, High: 750, Floor: 100},
		Held:  helds{held(3, 0, 300, 5, 99, 100, 250), held(7, 300, 400, 350)},
		Tombs: tombs{tomb(7, "[a=x]", 250, 360), tomb(4, "[b=y]", 100, 101)},
	}
	cases := []struct {
		rules    string
		from, to int
		want     string
	}{
		{"[]", 0, 10000, "{a=x}100,350,450,700{b=y}600"},
		{"[]", math.MinInt, math.MaxInt, "{a=x}100,350,450,700{b=y}600"},
		{"[]", 100, 701, "{a=x}100,350,450,700{b=y}600"},
		{"[]", 101, 700, "{a=x}350,450{b=y}600"},
		{"[]", 0, 100, ""},
		{"[]", 350, 350, ""},
		{"[]", 350, 351, "{a=x}350"},
		{"[]", 700, 100, ""},
		{"[a=x]", 0, 10000, "{a=x}100,350,450,700"},
		{"[a!x]", 0, 10000, "{b=y}600"},
		{"[c=]", 0, 500, "{a=x}100,350,450"},
		{"[c^z]", 0, 10000, ""},
	}
	for _, c := range cases {
		rules, _ := matchesIn(c.rules)
		if got := rowsShort(impl.StoreAsk(s, rules, c.from, c.to)); got != c.want {
			t.Errorf("%s from %d to %d: %s is told, not %s", c.rules, c.from, c.to, got, c.want)
		}
	}
	for what, rules := range wrongMatches {
		if got := impl.StoreAsk(s, rules, 0, 10000); got != nil {
			t.Errorf("matches, %s: %v is told", what, got)
		}
	}
}

func TestP48StoresThatAreNew(t *testing.T) {
	s := impl.StoreNew()
	if !impl.StoreOk(s) || !sameStore(s, newStore()) || !sameTable(s.Head, impl.TableNew()) {
		t.Errorf("StoreNew is %v", s)
	}
	if got := impl.StoreAsk(s, nil, 0, 10000); got != nil {
		t.Errorf("a new store tells %v", got)
	}
	got, list := checkStorePack(t, s)
	want := writes{{Kind: impl.WriteList, Text: summed("list 0 0 0 0\n")}, {Kind: impl.WriteCut}}
	if !sameStore(got, s) || !slices.Equal(list, want) {
		t.Errorf("a new store packed is %v, %+v", got, list)
	}
	if text := impl.StoreList(s); text != want[0].Text {
		t.Errorf("the list of a new store is %q", text)
	}
}

func TestStoreList(t *testing.T) {
	d := dice(99)
	for what, s := range goodStores() {
		if got, want := impl.StoreList(s), listText(s); got != want {
			t.Errorf("%s: StoreList is %q, not %q", what, got, want)
		}
	}
	for range 150 {
		s := someStore(t, &d)
		if got, want := impl.StoreList(s), listText(s); got != want {
			t.Fatalf("StoreList(%v) is %q, not %q", s, got, want)
		}
	}
	s := twoHeld()
	s.Tombs = append(s.Tombs, tomb(9, "[a=x,b^]", 7, 10000))
	want := "list 5 9 751 0\nb 3 0 100\nb 7 100 200\nt 4 [a=x] 0 10\nt 9 [a=x,b^] 7 10000\n" + linesOf(s.Head.Rows, 60)
	if got := impl.StoreList(s); got != summed(want) {
		t.Errorf("StoreList is %q", got)
	}
}

// answered is all lists of one answer.
type answered struct {
	Store  impl.Store
	Writes writes
}

func TestStoresLeaveTheirArguments(t *testing.T) {
	d := dice(9)
	stores := slices.Collect(maps.Values(goodStores()))
	stores = append(stores, wrongStores()["an Id twice"], wrongStores()["eleven rows in all"])
	for range 12 {
		stores = append(stores, someStore(t, &d))
	}
	for _, s := range stores {
		s = roomy(s)
		high := max(0, s.Head.High)
		fine := roomy(entries{entry("{a=x}", high, 1), entry("{a=x}", max(0, high-1), 1)})
		none := roomy(entries{entry("{zz=z}", high, 1), entry("{zz=z}", high, 2)})
		rules, wrong := roomy(someRules(&d, 2)), roomy(wrongMatches["five"])
		h := hand(s, fine, none, rules, wrong)
		for _, batch := range []entries{fine, none, nil} {
			got, list, code := impl.StoreAdd(s, batch)
			h.check(t, fmt.Sprint("StoreAdd with the code ", code), answered{got, list})
		}
		for _, rules := range []matches{rules, nil, wrong} {
			got, list, code := impl.StoreDrop(s, rules, 0, high)
			h.check(t, fmt.Sprint("StoreDrop with the code ", code), answered{got, list})
			h.check(t, "StoreAsk", impl.StoreAsk(s, rules, 0, 10000))
		}
		for _, age := range []int{-1, 0, 250, 500, 10000} {
			got, list, code := impl.StoreKeep(s, age)
			h.check(t, fmt.Sprint("StoreKeep with the code ", code), answered{got, list})
		}
		got, list := impl.StorePack(s)
		h.check(t, "StorePack", answered{got, list})
		s.Fresh = max(s.Fresh, impl.NumMax-2)
		h = hand(s, fine, none, rules, wrong)
		got, list = impl.StorePack(s)
		h.check(t, "StorePack without numbers", answered{got, list})
		h.check(t, "StoreList", impl.StoreList(s))
		impl.StoreOk(s)
		h.check(t, "StoreOk")
	}
	h := hand()
	h.check(t, "StoreNew", impl.StoreNew())
}
