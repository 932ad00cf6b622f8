package tests

import (
	"fmt"
	"math"
	"slices"
	"strings"
	"testing"

	"loop.example/almanack/impl"
)

// manyFiles is files with numbers from first on.
func manyFiles(first, n, step int) files {
	var out files
	for i := range n {
		out = append(out, impl.FileText{Id: first + i*step, Text: fmt.Sprint("file ", i)})
	}
	return out
}

func goodDisks() map[string]impl.Disk {
	return map[string]impl.Disk{
		"nothing":         {},
		"some of all":     {Log: "log", List: "list", Files: files{{Id: 3, Text: "three"}, {Id: 5}, {Id: 8, Text: "eight"}}},
		"a log at most":   {Log: strings.Repeat("x", impl.LogMax)},
		"a list of any":   {List: strings.Repeat("\x00\xff", 200000)},
		"Ids at the ends": {Files: files{{Id: 0, Text: "a"}, {Id: impl.NumMax, Text: "b"}}},
		"240 files":       {Log: "log", Files: manyFiles(10, 240, 2)},
		"no files":        {Log: "log", List: "list", Files: files{}},
	}
}

func wrongDisks() map[string]impl.Disk {
	out := map[string]impl.Disk{
		"a log too long":       {Log: strings.Repeat("x", impl.LogMax+1)},
		"241 files":            {Files: manyFiles(0, 241, 1)},
		"an Id below 0":        {Files: files{{Id: -1}}},
		"an Id too great":      {Files: files{{Id: impl.NumMax + 1}}},
		"the last too great":   {Files: files{{Id: 5}, {Id: impl.NumMax + 1}}},
		"an Id twice":          {Files: files{{Id: 5}, {Id: 5}}},
		"files out of order":   {Files: files{{Id: 5}, {Id: 4}}},
		"the last out of line": {Files: files{{Id: 1}, {Id: 7}, {Id: 5}}},
	}
	for _, n := range farNumbers {
		out[fmt.Sprint("an Id ", n)] = impl.Disk{Files: files{{Id: n}}}
	}
	return out
}

func TestDiskOk(t *testing.T) {
	for what, d := range goodDisks() {
		if !impl.DiskOk(d) {
			t.Errorf("%s: DiskOk is false", what)
		}
	}
	for what, d := range wrongDisks() {
		if impl.DiskOk(d) {
			t.Errorf("%s: DiskOk is true", what)
		}
	}
}

func checkDo(t *testing.T, d impl.Disk, w impl.Write) impl.Disk {
	t.Helper()
	got, want := impl.DiskDo(d, w), wantDo(d, w)
	if !sameDisk(got, want) || !impl.DiskOk(got) {
		t.Fatalf("DiskDo(%.500v, %.500v) is %.500v, not %.500v", d, w, got, want)
	}
	return got
}

func checkTorn(t *testing.T, d impl.Disk, w impl.Write, bytes int) impl.Disk {
	t.Helper()
	got, want := impl.DiskTorn(d, w, bytes), wantTorn(d, w, bytes)
	if !sameDisk(got, want) || !impl.DiskOk(got) {
		t.Fatalf("DiskTorn(%.500v, %.500v, %d) is %.500v, not %.500v", d, w, bytes, got, want)
	}
	return got
}

// someWrites is one of each kind, some with numbers and texts that its kind does not need.
func someWrites() writes {
	return writes{
		{Kind: impl.WriteLog, Text: "more"}, {Kind: impl.WriteLog}, {Kind: impl.WriteLog, Id: -5, Text: "x"},
		{Kind: impl.WriteFile, Id: 0, Text: "first"}, {Kind: impl.WriteFile, Id: 4, Text: "between"}, {Kind: impl.WriteFile, Id: impl.NumMax, Text: "last"},
		{Kind: impl.WriteFile, Id: 5, Text: "again"}, {Kind: impl.WriteFile, Id: 3}, {Kind: impl.WriteFile, Id: 11, Text: "odd"},
		{Kind: impl.WriteFile, Id: -1, Text: "x"}, {Kind: impl.WriteFile, Id: impl.NumMax + 1, Text: "x"}, {Kind: impl.WriteFile, Id: math.MaxInt, Text: "x"}, {Kind: impl.WriteFile, Id: math.MinInt, Text: "x"},
		{Kind: impl.WriteList, Text: "other"}, {Kind: impl.WriteList}, {Kind: impl.WriteList, Id: -5, Text: strings.Repeat("x", 200000)},
		{Kind: impl.WriteCut}, {Kind: impl.WriteCut, Id: 3, Text: "x"},
		{Kind: impl.WriteGone, Id: 3}, {Kind: impl.WriteGone, Id: 8, Text: "x"}, {Kind: impl.WriteGone, Id: 0}, {Kind: impl.WriteGone, Id: 4}, {Kind: impl.WriteGone, Id: 10}, {Kind: impl.WriteGone, Id: -1}, {Kind: impl.WriteGone, Id: math.MaxInt},
		{}, {Kind: -1, Id: 3, Text: "x"}, {Kind: 0, Id: 3, Text: "x"}, {Kind: 6, Id: 3, Text: "x"}, {Kind: math.MaxInt, Id: 3, Text: "x"}, {Kind: math.MinInt, Id: 3, Text: "x"},
	}
}

func TestP49WhatIsWrittenStandsThere(t *testing.T) {
	for what, d := range goodDisks() {
		for _, w := range someWrites() {
			got := checkDo(t, d, w)
			if w.Kind < impl.WriteLog || w.Kind > impl.WriteGone {
				if !sameDisk(got, d) {
					t.Errorf("%s: of no kind it is %v", what, got)
				}
			}
			if w.Kind == impl.WriteList && (got.List != w.Text || got.Log != d.Log || !slices.Equal(got.Files, d.Files)) {
				t.Errorf("%s: a list leaves %.200v", what, got)
			}
		}
	}
	d := dice(49)
	for range 300 {
		var disk impl.Disk
		for range 30 {
			w := someWrites()[d.below(len(someWrites()))]
			disk = checkDo(t, disk, w)
		}
	}
}

func TestP49Limits(t *testing.T) {
	log := func(size int) impl.Disk { return impl.Disk{Log: strings.Repeat("x", size), List: "list"} }
	cases := []struct {
		d     impl.Disk
		w     impl.Write
		bytes int
		files int
	}{
		{log(impl.LogMax - 4), impl.Write{Kind: impl.WriteLog, Text: "more"}, impl.LogMax, 0},
		{log(impl.LogMax - 3), impl.Write{Kind: impl.WriteLog, Text: "more"}, impl.LogMax - 3, 0},
		{log(impl.LogMax), impl.Write{Kind: impl.WriteLog, Text: "x"}, impl.LogMax, 0},
		{log(impl.LogMax), impl.Write{Kind: impl.WriteLog}, impl.LogMax, 0},
		{log(impl.LogMax), impl.Write{Kind: impl.WriteCut}, 0, 0},
		{log(0), impl.Write{Kind: impl.WriteLog, Text: strings.Repeat("x", impl.LogMax)}, impl.LogMax, 0},
		{log(0), impl.Write{Kind: impl.WriteLog, Text: strings.Repeat("x", impl.LogMax+1)}, 0, 0},
		{impl.Disk{Files: manyFiles(5, 239, 1)}, impl.Write{Kind: impl.WriteFile, Id: 4, Text: "x"}, 0, 240},
		{impl.Disk{Files: manyFiles(5, 240, 1)}, impl.Write{Kind: impl.WriteFile, Id: 4, Text: "x"}, 0, 240},
		{impl.Disk{Files: manyFiles(5, 240, 1)}, impl.Write{Kind: impl.WriteFile, Id: 9999, Text: "x"}, 0, 240},
		{impl.Disk{Files: manyFiles(5, 240, 1)}, impl.Write{Kind: impl.WriteFile, Id: 5, Text: "x"}, 0, 240},
		{impl.Disk{Files: manyFiles(5, 240, 1)}, impl.Write{Kind: impl.WriteGone, Id: 5}, 0, 239},
		{impl.Disk{}, impl.Write{Kind: impl.WriteFile, Id: 0}, 0, 1},
	}
	for i, c := range cases {
		if got := checkDo(t, c.d, c.w); len(got.Log) != c.bytes || len(got.Files) != c.files {
			t.Errorf("case %d: there are %d bytes and %d files", i, len(got.Log), len(got.Files))
		}
	}
	five := impl.Disk{Files: manyFiles(5, 240, 1)}
	if got := impl.DiskDo(five, impl.Write{Kind: impl.WriteFile, Id: 6, Text: "new"}); got.Files[1].Text != "new" || got.Files[0].Text != "file 0" {
		t.Error("a file of 240 is not written again")
	}
}

func TestP49P50P51P52DisksThatAreNotOk(t *testing.T) {
	for what, d := range wrongDisks() {
		for _, w := range someWrites() {
			if got := impl.DiskDo(d, w); !sameDisk(got, impl.Disk{}) {
				t.Errorf("%s: DiskDo is %.200v", what, got)
			}
			for _, bytes := range []int{-1, 0, 1, 1000} {
				if got := impl.DiskTorn(d, w, bytes); !sameDisk(got, impl.Disk{}) {
					t.Errorf("%s: DiskTorn is %.200v", what, got)
				}
			}
		}
		if got, ok := impl.DiskOpen(d); ok || !sameStore(got, impl.Store{}) {
			t.Errorf("%s: DiskOpen is %v, %v", what, got, ok)
		}
		if got, ok := impl.DiskMend(d); ok || !sameDisk(got, impl.Disk{}) {
			t.Errorf("%s: DiskMend is %v, %v", what, got, ok)
		}
	}
}

func TestP50WhatIsTornIsWrittenInPart(t *testing.T) {
	for what, d := range goodDisks() {
		for _, w := range someWrites() {
			sizes := append([]int{len(w.Text), len(w.Text) + 1, len(w.Text) - 1}, upTo(-3, 20, 1)...)
			for _, bytes := range append(sizes, farNumbers...) {
				checkTorn(t, d, w, bytes)
			}
			all, none := impl.DiskTorn(d, w, max(1, len(w.Text))), impl.DiskTorn(d, w, 0)
			if byBytes := w.Kind == impl.WriteLog || w.Kind == impl.WriteFile; byBytes && !sameDisk(all, impl.DiskDo(d, w)) || !byBytes && !sameDisk(all, d) {
				t.Errorf("%s: all of %.200v is %.200v", what, w, all)
			}
			if !sameDisk(none, d) {
				t.Errorf("%s: none of %.200v is %.200v", what, w, none)
			}
		}
	}
}

func TestP50EachByte(t *testing.T) {
	d := impl.Disk{Log: "log", List: "list", Files: files{{Id: 3, Text: "three"}, {Id: 5, Text: "five"}}}
	for at := range 12 {
		if got, want := checkTorn(t, d, impl.Write{Kind: impl.WriteLog, Text: "behind"}, at).Log, "log"+"behind"[:min(at, 6)]; got != want {
			t.Errorf("%d bytes: the log is %q, not %q", at, got, want)
		}
		if got := checkTorn(t, d, impl.Write{Kind: impl.WriteFile, Id: 3, Text: "behind"}, at).Files[0].Text; at > 0 && got != "behind"[:min(at, 6)] || at == 0 && got != "three" {
			t.Errorf("%d bytes: a file that was there is %q", at, got)
		}
		got := checkTorn(t, d, impl.Write{Kind: impl.WriteFile, Id: 4, Text: "behind"}, at).Files
		if at > 0 && (len(got) != 3 || got[1] != impl.FileText{Id: 4, Text: "behind"[:min(at, 6)]}) || at == 0 && len(got) != 2 {
			t.Errorf("%d bytes: with a new file it is %v", at, got)
		}
	}
	if got := checkTorn(t, d, impl.Write{Kind: impl.WriteFile, Id: 4}, 1); len(got.Files) != 3 {
		t.Errorf("an empty file is %v", got)
	}
	if got := checkTorn(t, d, impl.Write{Kind: impl.WriteFile, Id: 4}, 0); len(got.Files) != 2 {
		t.Errorf("nothing of an empty file is %v", got)
	}
	full := impl.Disk{Log: strings.Repeat("x", impl.LogMax-3)}
	for at := range 6 {
		if got, want := len(checkTorn(t, full, impl.Write{Kind: impl.WriteLog, Text: "behind"}, at).Log), impl.LogMax-3+at%4*(1-at/4); got != want {
			t.Errorf("%d bytes: the log has %d bytes, not %d", at, got, want)
		}
	}
}

// checkOpen holds DiskOpen and DiskMend against the plain ones.
func checkOpen(t *testing.T, d impl.Disk) (impl.Store, bool) {
	t.Helper()
	want, fine := openIn(d)
	got, ok := impl.DiskOpen(d)
	if ok != fine || !sameStore(got, want) {
		t.Fatalf("DiskOpen(%q) is %v, %v, not %v, %v", diskTexts(d), got, ok, want, fine)
	}
	wantDisk, _ := wantMend(d)
	disk, mended := impl.DiskMend(d)
	if mended != fine || !sameDisk(disk, wantDisk) {
		t.Fatalf("DiskMend(%q) is %q, %v, not %q", diskTexts(d), diskTexts(disk), mended, diskTexts(wantDisk))
	}
	if ok {
		checkMended(t, d, disk, got)
	}
	return got, ok
}

// diskTexts is all texts of a disk, to be told.
func diskTexts(d impl.Disk) []string {
	out := []string{d.Log, d.List}
	for _, f := range d.Files {
		out = append(out, fmt.Sprint(f.Id), f.Text)
	}
	return out
}

// checkMended is what the promises say of a disk that has a store, in their own words.
func checkMended(t *testing.T, d, mended impl.Disk, s impl.Store) {
	t.Helper()
	if !impl.StoreOk(s) {
		t.Fatalf("DiskOpen(%q) is %v, which is not ok", diskTexts(d), s)
	}
	if _, list, _ := impl.LogGet(d.Log); d.List != "" && list == nil && impl.StoreList(s) != d.List {
		t.Fatalf("DiskOpen(%q) has the list %q", diskTexts(d), impl.StoreList(s))
	}
	if again, ok := impl.DiskOpen(mended); !ok || !sameStore(again, s) {
		t.Fatalf("%q, mended, opens as %v, %v", diskTexts(d), again, ok)
	}
	if again, ok := impl.DiskMend(mended); !ok || !sameDisk(again, mended) {
		t.Fatalf("%q, mended again, is %q, %v", diskTexts(d), diskTexts(again), ok)
	}
	if !strings.HasPrefix(d.Log, mended.Log) || mended.List != d.List || len(mended.Files) != len(s.Held) {
		t.Fatalf("%q, mended, is %q", diskTexts(d), diskTexts(mended))
	}
}

// writeAll does all writes to a disk.
func writeAll(t *testing.T, d impl.Disk, list writes) impl.Disk {
	t.Helper()
	for _, w := range list {
		d = checkDo(t, d, w)
	}
	return d
}

// someDisk is one to which something was written, without a fall, and its store.
func someDisk(t *testing.T, d *dice) (impl.Disk, impl.Store) {
	t.Helper()
	var disk impl.Disk
	s := newStore()
	for range 5 + d.below(50) {
		var list writes
		s, list = someStep(t, d, s, 10)
		disk = writeAll(t, disk, list)
	}
	return disk, s
}

func TestP51WhatIsOpenedIsTheStore(t *testing.T) {
	d := dice(51)
	for range 40 {
		var disk impl.Disk
		s := newStore()
		for range 40 {
			var list writes
			s, list = someStep(t, &d, s, 10)
			disk = writeAll(t, disk, list)
			if got, ok := checkOpen(t, disk); !ok || !sameStore(got, s) {
				t.Fatalf("%q opens as %v, %v, not %v", diskTexts(disk), got, ok, s)
			}
		}
	}
	if got, ok := checkOpen(t, impl.Disk{}); !ok || !sameStore(got, newStore()) {
		t.Errorf("of nothing it is %v, %v", got, ok)
	}
}

// cutDisk has the lists and files of a store, and a log.
func cutDisk(s impl.Store, log string) impl.Disk {
	d := impl.Disk{Log: log, List: listText(s)}
	for _, h := range s.Held {
		d.Files = append(d.Files, impl.FileText{Id: h.Id, Text: blockText(h.Block)})
	}
	slices.SortFunc(d.Files, func(a, b impl.FileText) int { return a.Id - b.Id })
	return d
}

func TestP51ListsAreReadBack(t *testing.T) {
	for what, s := range goodStores() {
		if got, ok := checkOpen(t, cutDisk(s, "")); !ok || !sameStore(got, s) {
			t.Errorf("%s: it opens as %v, %v", what, got, ok)
		}
	}
}

// noStore says that a disk has none.
func noStore(t *testing.T, what string, d impl.Disk) {
	t.Helper()
	if got, ok := checkOpen(t, d); ok {
		t.Errorf("%s: %q opens as %v", what, diskTexts(d), got)
	}
}

// backward is lines in the opposite order.
func backward(text string) string {
	lines := strings.SplitAfter(text, "\n")
	slices.Reverse(lines)
	return strings.Join(lines, "")
}

func TestP51ListsThatAreNone(t *testing.T) {
	s := twoHeld()
	good := cutDisk(s, "")
	body := strings.TrimSuffix(good.List, good.List[strings.LastIndex(good.List, "sum "):])
	head := linesOf(s.Head.Rows, 60)
	if _, ok := checkOpen(t, impl.Disk{List: summed(body), Files: good.Files}); !ok {
		t.Fatalf("%q is not opened", body)
	}
	none := func(what, list string) {
		t.Helper()
		noStore(t, what, impl.Disk{List: list, Files: good.Files})
	}
	for at := range len(good.List) {
		none("cut", good.List[:max(1, at)])
		for _, by := range []byte{1, 2, 16, 32, 128} {
			spoilt := []byte(good.List)
			spoilt[at] ^= by
			none("a byte turned", string(spoilt))
		}
	}
	none("no sum", body)
	none("a sum of another text", body+good.List[strings.LastIndex(good.List, "sum "):len(good.List)-2]+"\n")
	none("a sum with a nought ahead", strings.Replace(summed(body), "sum ", "sum 0", 1))
	none("a sum with a blank behind", strings.TrimSuffix(summed(body), "\n")+" \n")
	none("a sum without a newline", strings.TrimSuffix(summed(body), "\n"))
	none("a newline more", summed(body)+"\n")
	none("two sums", summed(summed(body)))
	for i := range strings.Count(body, "\n") {
		lines := strings.SplitAfter(body, "\n")
		twice := strings.Join(slices.Insert(slices.Clone(lines), i, lines[i]), "")
		if !strings.HasPrefix(lines[i], "t ") {
			none("a line twice", summed(twice))
		}
		none("a line twice, the sum as it was", strings.Replace(good.List, body, twice, 1))
		none("a line missing, the sum as it was", strings.Replace(good.List, lines[i], "", 1))
	}
	none("the first line missing", summed(strings.SplitN(body, "\n", 2)[1]))
	for what, c := range map[string][2]string{
		"a blank ahead":                  {"list 5", " list 5"},
		"two blanks":                     {"list 5", "list  5"},
		"a blank behind":                 {"751 0\n", "751 0 \n"},
		"an empty line":                  {"751 0\n", "751 0\n\n"},
		"an empty line ahead":            {"list 5", "\nlist 5"},
		"an empty line at the end":       {head, head + "\n"},
		"a return":                       {"751 0\n", "751 0\r\n"},
		"another name":                   {"list 5", "lists 5"},
		"no name":                        {"list 5", "5"},
		"a nought ahead of Next":         {"list 5", "list 05"},
		"a sign":                         {"list 5", "list +5"},
		"below 0":                        {"list 5", "list -5"},
		"no number":                      {"list 5", "list x"},
		"a number that is empty":         {"list 5 9", "list  9"},
		"a number too long":              {"list 5", "list 18446744073709551621"},
		"Next too great":                 {"list 5", "list 10000"},
		"Fresh too great":                {"list 5 9", "list 5 10000"},
		"Fresh an Id":                    {"list 5 9", "list 5 7"},
		"a nought ahead of Fresh":        {"list 5 9", "list 5 09"},
		"a nought ahead of High":         {"751 0\n", "0751 0\n"},
		"a nought ahead of Floor":        {"751 0\n", "751 00\n"},
		"High too great":                 {"751 0\n", "10001 0\n"},
		"High below a sample":            {"751 0\n", "700 0\n"},
		"High at Window":                 {"751 0\n", "301 0\n"},
		"no Floor":                       {"751 0\n", "751\n"},
		"Floor that is none":             {"751 0\n", "751 50\n"},
		"Floor at an end":                {"751 0\n", "751 100\n"},
		"a number more":                  {"751 0\n", "751 0 0\n"},
		"a block twice":                  {"b 3 0 100\n", "b 3 0 100\nb 3 0 100\n"},
		"blocks out of order":            {"b 3 0 100\nb 7 100 200\n", "b 7 100 200\nb 3 0 100\n"},
		"an Id twice":                    {"b 7", "b 3"},
		"an Id that is Fresh":            {"b 7", "b 9"},
		"a nought ahead of an Id":        {"b 7", "b 07"},
		"a nought ahead of Low":          {"b 3 0 100", "b 3 00 100"},
		"a nought ahead of High of one":  {"b 3 0 100", "b 3 0 0100"},
		"two blanks in a block":          {"b 3 0", "b 3  0"},
		"a blank behind a block":         {"b 3 0 100\n", "b 3 0 100 \n"},
		"a number more of a block":       {"b 3 0 100\n", "b 3 0 100 0\n"},
		"a number less of a block":       {"b 3 0 100\n", "b 3 0\n"},
		"a block of two bases":           {"b 7 100 200", "b 7 100 300"},
		"a block of no width":            {"b 7 100 200", "b 7 100 100"},
		"a block the other way round":    {"b 7 100 200", "b 7 200 100"},
		"a block beside a base":          {"b 7 100 200", "b 7 101 201"},
		"a block reaching into the next": {"b 3 0 100", "b 3 0 300"},
		"a block behind the bound":       {"b 7 100 200", "b 7 500 600"},
		"a block behind Head":            {"b 7 100 200", "b 7 400 500"},
		"a block that nobody has":        {"b 7 100 200", "b 6 100 200"},
		"a block of another time":        {"b 7 100 200", "b 7 200 300"},
		"another letter of a block":      {"b 7", "B 7"},
		"Tombs ahead of blocks":          {"b 3 0 100\nb 7 100 200\nt 4 [a=x] 0 10\n", "t 4 [a=x] 0 10\nb 3 0 100\nb 7 100 200\n"},
		"Tombs between blocks":           {"b 7 100 200\nt 4 [a=x] 0 10\n", "t 4 [a=x] 0 10\nb 7 100 200\n"},
		"Tombs behind rows":              {"t 4 [a=x] 0 10\n" + head, head + "t 4 [a=x] 0 10\n"},
		"blocks behind rows":             {"b 7 100 200\nt 4 [a=x] 0 10\n" + head, "t 4 [a=x] 0 10\n" + head + "b 7 100 200\n"},
		"Before 0":                       {"t 4", "t 0"},
		"Before at an Id":                {"t 4", "t 3"},
		"Before above Fresh":             {"t 4", "t 10"},
		"a nought ahead of Before":       {"t 4", "t 04"},
		"matches that are none":          {"[a=x]", "[a]"},
		"matches with a blank":           {"[a=x]", "[a=x, b=x]"},
		"labels for matches":             {"[a=x]", "{a=x}"},
		"no matches":                     {"t 4 [a=x] 0 10", "t 4 0 10"},
		"times the other way round":      {"0 10\n", "10 0\n"},
		"a nought ahead of From":         {"] 0 10", "] 00 10"},
		"a nought ahead of To":           {"0 10\n", "0 010\n"},
		"To too great":                   {"0 10\n", "0 10001\n"},
		"a time more":                    {"0 10\n", "0 10 10\n"},
		"two blanks of Tombs":            {"t 4 [", "t 4  ["},
		"seven Tombs":                    {"t 4 [a=x] 0 10\n", strings.Repeat("t 4 [a=x] 0 10\n", 7)},
		"rows that are none":             {head, head[1:]},
		"rows out of order":              {head, backward(head)},
		"a row that is none":             {head, head + "{c=z} 00\n"},
		"rows ahead of a block's end":    {head, linesOf(rows{row("{a=x}", 199)}, 60)},
		"rows behind High":               {head, linesOf(rows{row("{a=x}", 751)}, 60)},
		"a piece in two":                 {head, linesOf(rows{row("{a=x}", 450, 700)}, 1)},
	} {
		if strings.Count(body, c[0]) != 1 {
			t.Fatalf("%s: %q is not once in %q", what, c[0], body)
		}
		none(what, summed(strings.Replace(body, c[0], c[1], 1)))
	}
	for _, list := range []string{" ", "\n", "x", "list", "list 0 0 0 0\n", "sum 0\n", summed(""), summed("\n"), summed("list"), summed("list 0 0 0 0"), summed("list 0 0 0\n"), summed("list 0 0 0 0\nlist 0 0 0 0\n"), "list 0 0 0 0\nsum 1\n", strings.Repeat("b 0 0 100\n", 20000), summed("list 0 0 0 0\n" + strings.Repeat("b 0 0 100\n", 5000))} {
		none("nothing like a list", list)
	}
}

// linesFrom is records under numbers from first on.
func linesFrom(first int, list ...impl.Rec) string {
	out := ""
	for i, r := range list {
		out += logLine(first+i, recText(r))
	}
	return out
}

// logCase is a log behind the list of twoHeld, whose Next is 5, and what it opens as; nothing, if there is no store.
type logCase struct {
	what string
	log  string
	next int
	want string
}

func checkLogCases(t *testing.T, disk impl.Disk, cases []logCase) {
	t.Helper()
	for _, c := range cases {
		disk.Log = c.log
		s, ok := checkOpen(t, disk)
		if c.want == "" {
			if ok {
				t.Errorf("%s: it opens as %v", c.what, s)
			}
			continue
		}
		if !ok || s.Next != c.next || storeShort(s) != c.want {
			t.Errorf("%s: it opens as %s, Next %d, %v", c.what, storeShort(s), s.Next, ok)
		}
	}
}

const asItWas = "3:0-100{a=x}5,50 7:100-200{a=x}150 t4[a=x]0-10 head{a=x}450,700{b=y}600"

func TestP51NumbersOfRecords(t *testing.T) {
	add := func(at int) impl.Rec { return addRec(entry("{a=x}", at, 1)) }
	wrong := addRec(entry("{a=x}", 450, 1))
	fine := "3:0-100{a=x}5,50 7:100-200{a=x}150 t4[a=x]0-10 head{a=x}450,700,"
	checkLogCases(t, cutDisk(twoHeld(), ""), []logCase{
		{"no log", "", 5, asItWas},
		{"all are below Next", linesFrom(2, add(701), add(702), add(703)), 5, asItWas},
		{"below Next, and could not be done", linesFrom(3, wrong, keepRec(0)), 5, asItWas},
		{"beginning at Next", linesFrom(5, add(701), add(702)), 7, fine + "701,702{b=y}600"},
		{"going on over Next", linesFrom(3, wrong, add(701), add(702), add(703)), 7, fine + "702,703{b=y}600"},
		{"from 0 on", linesFrom(0, wrong, wrong, wrong, wrong, wrong, add(701)), 6, fine + "701{b=y}600"},
		{"just ahead of Next", linesFrom(4, wrong, add(701)), 6, fine + "701{b=y}600"},
		{"beginning above Next", linesFrom(6, add(701)), 0, ""},
		{"far above Next", linesFrom(9000, add(701)), 0, ""},
		{"breaking off", strings.TrimSuffix(linesFrom(5, add(701), add(702)), "\n"), 6, fine + "701{b=y}600"},
		{"breaking off at once", linesFrom(5, add(701))[:10], 5, asItWas},
		{"broken ahead of what goes on", "x\n" + linesFrom(5, add(701)), 5, asItWas},
		{"broken ahead of what is above", "x\n" + linesFrom(6, add(701)), 5, asItWas},
		{"a number left out", linesFrom(5, add(701)) + linesFrom(7, add(702)), 6, fine + "701{b=y}600"},
		{"a number twice", linesFrom(5, add(701)) + linesFrom(5, add(702)), 6, fine + "701{b=y}600"},
		{"below Next, and then a number left out", linesFrom(3, add(701)) + linesFrom(5, add(702)), 5, asItWas},
		{"a sum that is wrong", strings.Replace(linesFrom(5, add(701), add(702)), " 702 ", " 703 ", 1), 6, fine + "701{b=y}600"},
	})
	last := twoHeld()
	last.Next = impl.NumMax - 1
	checkLogCases(t, cutDisk(last, ""), []logCase{
		{"the last number", linesFrom(impl.NumMax-1, add(701)), impl.NumMax, fine + "701{b=y}600"},
		{"a number more than there are", linesFrom(impl.NumMax-1, add(701), add(702)), 0, ""},
	})
	last.Next = impl.NumMax
	checkLogCases(t, cutDisk(last, ""), []logCase{
		{"no number any more", linesFrom(impl.NumMax-1, add(701)), impl.NumMax, asItWas},
		{"the number that none can have", linesFrom(impl.NumMax, add(701)), 0, ""},
	})
	checkLogCases(t, impl.Disk{}, []logCase{
		{"without a list", linesFrom(0, add(10), add(20)), 2, "head{a=x}10,20"},
		{"without a list, above 0", linesFrom(1, add(10)), 0, ""},
	})
}

func TestP51WhatIsDoneAgain(t *testing.T) {
	head := "head{a=x}450,700{b=y}600"
	blocks := "3:0-100{a=x}5,50 7:100-200{a=x}150 "
	checkLogCases(t, cutDisk(twoHeld(), ""), []logCase{
		{"an entry", linesFrom(5, addRec(entry("{c=z}", 760, 1))), 6, blocks + "t4[a=x]0-10 " + head + "{c=z}760"},
		{"an entry that is there", linesFrom(5, addRec(entry("{a=x}", 700, 700))), 6, asItWas},
		{"another number", linesFrom(5, addRec(entry("{a=x}", 700, 1))), 0, ""},
		{"another number at the second", linesFrom(5, addRec(entry("{a=x}", 750, 1), entry("{a=x}", 750, 2))), 0, ""},
		{"where the last block ends", linesFrom(5, addRec(entry("{a=x}", 200, 1))), 6, blocks + "t4[a=x]0-10 head{a=x}200,450,700{b=y}600"},
		{"ahead of where the last block ends", linesFrom(5, addRec(entry("{a=x}", 199, 1))), 0, ""},
		{"ahead of that, taken away again", linesFrom(5, addRec(entry("{a=x}", 199, 1)), dropRec("[]", 199, 200)), 7, blocks + "t4[a=x]0-10 t9[]199-200 " + head},
		{"a drop", linesFrom(5, dropRec("[a=x]", 50, 500)), 6, blocks + "t4[a=x]0-10 t9[a=x]50-500 head{a=x}700{b=y}600"},
		{"a drop, and an entry there", linesFrom(5, dropRec("[a=x]", 50, 800), addRec(entry("{a=x}", 700, 9))), 7, blocks + "t4[a=x]0-10 t9[a=x]50-800 head{a=x}700{b=y}600"},
		{"five drops", linesFrom(5, slices.Repeat(recs{dropRec("[]", 5, 5)}, 5)...), 10, blocks + "t4[a=x]0-10 " + strings.Repeat("t9[]5-5 ", 5) + head},
		{"six drops", linesFrom(5, slices.Repeat(recs{dropRec("[]", 5, 5)}, 6)...), 0, ""},
		{"six drops, and a keep of no block", linesFrom(5, append(slices.Repeat(recs{dropRec("[]", 5, 5)}, 6), keepRec(200))...), 12, head},
		{"a keep", linesFrom(5, keepRec(100)), 6, "7:100-200{a=x}150 " + head},
		{"a keep of no block", linesFrom(5, keepRec(200)), 6, head},
		{"a keep of part of Head", linesFrom(5, keepRec(500)), 6, "head{a=x}700{b=y}600"},
		{"a keep at High", linesFrom(5, addRec(entry("{c=z}", 800, 1)), keepRec(800)), 7, "head{c=z}800"},
		{"a keep above High", linesFrom(5, keepRec(800)), 0, ""},
		{"a keep above High, which goes on", linesFrom(5, keepRec(800), addRec(entry("{c=z}", 800, 1))), 7, "head{c=z}800"},
		{"a keep that is not above Floor", linesFrom(5, keepRec(0)), 0, ""},
		{"a keep twice", linesFrom(5, keepRec(100), keepRec(100)), 0, ""},
		{"a keep, and a lesser one", linesFrom(5, keepRec(300), keepRec(200)), 0, ""},
		{"a keep, and a greater one", linesFrom(5, keepRec(100), keepRec(200)), 7, head},
		{"an entry ahead of Floor", linesFrom(5, keepRec(500), addRec(entry("{c=z}", 499, 1))), 0, ""},
		{"a drop behind a keep of no block", linesFrom(5, keepRec(200), dropRec("[]", 0, 500)), 7, "head{a=x}700{b=y}600"},
		{"a drop behind a keep of a block", linesFrom(5, keepRec(100), dropRec("[]", 0, 500)), 7, "7:100-200{a=x}150 t9[]0-500 head{a=x}700{b=y}600"},
	})
	eleven := linesFrom(0, addRec(entry("{b=a}", 600, 1), entry("{b=b}", 600, 1), entry("{b=c}", 600, 1), entry("{b=d}", 600, 1), entry("{b=e}", 600, 1), entry("{b=f}", 600, 1)))
	if got, ok := checkOpen(t, cutDisk(parted(4, 0), eleven)); !ok || len(impl.StoreAsk(got, nil, 0, 10000)) != 10 {
		t.Errorf("ten rows open as %v, %v", got, ok)
	}
	noStore(t, "eleven rows, of which a block has some", cutDisk(parted(5, 0), eleven))
}

func TestP51FilesOfBlocks(t *testing.T) {
	s := twoHeld()
	good := cutDisk(s, "")
	with := func(id int, text string) impl.Disk {
		return wantDo(good, impl.Write{Kind: impl.WriteFile, Id: id, Text: text})
	}
	first := good.Files[0].Text
	noStore(t, "no files", impl.Disk{List: good.List})
	noStore(t, "the first missing", impl.Disk{List: good.List, Files: good.Files[1:]})
	noStore(t, "the last missing", impl.Disk{List: good.List, Files: good.Files[:1]})
	noStore(t, "an empty one", with(3, ""))
	noStore(t, "one of the next times", with(3, good.Files[1].Text))
	noStore(t, "one of a greater range", with(3, blockText(block(0, 300, 5, 50))))
	noStore(t, "one without a sum", with(3, first[:strings.LastIndex(first, "sum ")]))
	noStore(t, "one with a newline more", with(3, first+"\n"))
	for at := range len(first) {
		noStore(t, "one that is cut", with(3, first[:at]))
		spoilt := []byte(first)
		spoilt[at]++
		noStore(t, "one with a byte turned", with(3, string(spoilt)))
	}
	for _, told := range [][2]int{{0, 300}, {0, 100}, {100, 200}, {200, 300}, {300, 400}, {300, 600}, {0, 900}} {
		for _, is := range [][2]int{{0, 300}, {0, 100}, {100, 200}, {200, 300}, {300, 400}, {300, 600}, {0, 900}} {
			disk := cutDisk(heldStore(1500, 0, held(7, told[0], told[1], told[0])), "")
			disk.Files[0].Text = blockText(block(is[0], is[1], is[0]))
			if _, ok := checkOpen(t, disk); ok != (told == is) {
				t.Errorf("a block told of as %v, and of %v: %v", told, is, ok)
			}
		}
	}
	if got, ok := checkOpen(t, with(3, blockText(block(0, 100, 77)))); !ok || rowsShort(got.Held[0].Block.Rows) != "{a=x}77" {
		t.Errorf("another block of this range opens as %v, %v", got, ok)
	}
	noStore(t, "another block, with rows too many", wantDo(cutDisk(parted(4, 6), ""), impl.Write{Kind: impl.WriteFile, Id: 0, Text: blockText(impl.Block{Low: 0, High: 100, Rows: manyRows(5, 1)})}))
	for _, id := range []int{0, 4, 8, 9, 20, impl.NumMax} {
		for _, text := range []string{"", "x", first, good.Files[1].Text} {
			disk := with(id, text)
			if got, ok := checkOpen(t, disk); !ok || !sameStore(got, s) {
				t.Errorf("with a file more, %d, it opens as %v, %v", id, got, ok)
			}
			if mended, ok := impl.DiskMend(disk); !ok || !sameDisk(mended, good) {
				t.Errorf("with a file more, %d, it is mended as %q, %v", id, diskTexts(mended), ok)
			}
		}
	}
}

func TestP51BlocksThatAreGone(t *testing.T) {
	s := impl.Store{
		Next: 4, Fresh: 9,
		Head:  impl.Table{Rows: rows{row("{a=x}", 600, 700, 950)}, High: 950},
		Held:  helds{held(6, 0, 300, 5, 250), held(2, 300, 400, 350), held(8, 400, 500, 450)},
		Tombs: tombs{tomb(3, "[]", 0, 10), tomb(7, "[]", 5, 6), tomb(9, "[]", 9, 10)},
	}
	disk := cutDisk(s, "")
	for _, age := range []int{650, 550, 450, 0} {
		want, list, _ := checkStoreKeep(t, s, age)
		for done := range len(list) {
			got, ok := checkOpen(t, writeAll(t, disk, list[:done+1]))
			if !ok || !sameStore(got, want) {
				t.Errorf("age %d, %d writes: it opens as %v, %v", age, done+1, got, ok)
			}
		}
		all := writeAll(t, disk, list)
		if len(all.Files) != len(want.Held) {
			t.Errorf("age %d: there are %d files", age, len(all.Files))
		}
		noStore(t, "the log cut off, and files gone", impl.Disk{List: all.List, Files: all.Files})
	}
}

func TestP51ListsWithOneThingChanged(t *testing.T) {
	d := dice(5151)
	opened := 0
	for range 250 {
		disk, _ := someDisk(t, &d)
		if disk.List == "" {
			continue
		}
		body := disk.List[:strings.LastIndex(disk.List, "sum ")]
		for range 10 {
			disk.List = summed(turned(&d, body, "bt []{}=,x0123456789\n-"))
			if _, ok := checkOpen(t, disk); ok {
				opened++
			}
		}
	}
	if opened < 300 {
		t.Errorf("%d were opened", opened)
	}
}

func TestP51LogsAndFilesWithOneThingChanged(t *testing.T) {
	d := dice(515)
	for range 80 {
		disk, _ := someDisk(t, &d)
		for range 10 {
			next := disk
			next.Log = turned(&d, disk.Log, "ADK{}[]=!^~,ab 0123459+-\n")
			checkOpen(t, next)
			if first, list, _ := logIn(disk.Log); len(list) > 0 {
				spoilt := slices.Clone(list)
				spoilt[d.below(len(list))] = someRec(&d)
				next.Log = linesFrom(first+d.below(3)-1, spoilt...)
				checkOpen(t, next)
			}
			if len(disk.Files) > 0 {
				next = disk
				next.Files = slices.Clone(disk.Files)
				at := d.below(len(next.Files))
				next.Files[at].Text = turned(&d, next.Files[at].Text, "{}=,ab 0123459f\n")
				checkOpen(t, next)
				next.Files = slices.Delete(slices.Clone(disk.Files), at, at+1)
				checkOpen(t, next)
			}
		}
	}
}

// falls tells a disk behind each fall in the midst of writes: so many done, and so many bytes of the next one.
func falls(t *testing.T, disk impl.Disk, list writes, tell func(done, bytes int, fallen impl.Disk)) {
	for done := range len(list) + 1 {
		if done == len(list) {
			tell(done, 0, disk)
			return
		}
		size := len(list[done].Text)
		for bytes := 0; bytes <= size+1; bytes += 1 + size/8 {
			tell(done, bytes, checkTorn(t, disk, list[done], bytes))
		}
		tell(done, size, checkTorn(t, disk, list[done], size))
		disk = checkDo(t, disk, list[done])
	}
}

// countsAt is the place of the write behind which all is as it should be: that of a record, or of the list.
func countsAt(list writes) int {
	return slices.IndexFunc(list, func(w impl.Write) bool { return w.Kind == impl.WriteLog || w.Kind == impl.WriteList })
}

func TestP46P50P52FallsInTheMidstOfWrites(t *testing.T) {
	d := dice(52)
	for range 25 {
		var disk impl.Disk
		s := newStore()
		for range 25 {
			next, list := someStep(t, &d, s, 10)
			falls(t, disk, list, func(done, bytes int, fallen impl.Disk) {
				want := s
				if counts := countsAt(list); done > counts || done == counts && list[done].Kind == impl.WriteLog && bytes >= len(list[done].Text) {
					want = next
				}
				if got, ok := checkOpen(t, fallen); !ok || !sameStore(got, want) {
					t.Fatalf("behind a fall at %d of %+v, %d bytes: %v, %v, not %v", done, list, bytes, got, ok, want)
				}
			})
			disk, s = writeAll(t, disk, list), next
			if d.below(3) == 0 {
				mended, ok := impl.DiskMend(wantTorn(disk, impl.Write{Kind: impl.WriteLog, Text: linesFrom(s.Next, keepRec(9900))}, 1+d.below(9)))
				if !ok {
					t.Fatalf("%q is not mended", diskTexts(disk))
				}
				disk = mended
			}
		}
	}
}

func TestP52WhatIsMended(t *testing.T) {
	s := twoHeld()
	good := cutDisk(s, linesFrom(5, addRec(entry("{a=x}", 710, 1))))
	for _, tail := range []string{"", "x", "\n", "7", linesFrom(6, keepRec(100))[:9], linesFrom(7, keepRec(100)), linesFrom(5, keepRec(100)), strings.Repeat("x", 90000)} {
		disk := good
		disk.Log += tail
		disk.Files = append(files{{Id: 1, Text: "x"}}, append(slices.Clone(good.Files), impl.FileText{Id: 9000, Text: ""})...)
		got, ok := impl.DiskMend(disk)
		if !ok || !sameDisk(got, good) {
			t.Errorf("behind the log %.50q: %q, %v", tail, diskTexts(got), ok)
		}
		checkOpen(t, disk)
	}
	behind := cutDisk(s, linesFrom(2, keepRec(100), keepRec(300)))
	if got, ok := impl.DiskMend(behind); !ok || !sameDisk(got, behind) {
		t.Errorf("records that are passed over: %q, %v", diskTexts(got), ok)
	}
	more := cutDisk(s, linesFrom(5, addRec(entry("{a=x}", 710, 1))))
	next := wantDo(more, impl.Write{Kind: impl.WriteLog, Text: linesFrom(6, keepRec(100))})
	if got, ok := checkOpen(t, next); !ok || got.Next != 7 || got.Head.Floor != 100 {
		t.Errorf("numbers that go on: %v, %v", got, ok)
	}
	d := dice(5252)
	for range 60 {
		disk, s := someDisk(t, &d)
		for id := d.below(40); id < 9000 && len(disk.Files) < 200; id += 1 + d.below(900) {
			if !slices.Contains(idsOf(s), id) {
				disk = wantDo(disk, impl.Write{Kind: impl.WriteFile, Id: id, Text: d.text(d.below(40))})
			}
		}
		disk.Log += d.text(d.below(40))
		if got, ok := checkOpen(t, disk); !ok || !sameStore(got, s) {
			t.Fatalf("%q opens as %v, %v", diskTexts(disk), got, ok)
		}
	}
	for what, list := range map[string]string{"no list": "x", "a sum that is wrong": "list 0 0 0 0\nsum 1\n"} {
		if got, ok := impl.DiskMend(impl.Disk{List: list, Files: files{{Id: 5}}}); ok || !sameDisk(got, impl.Disk{}) {
			t.Errorf("%s: it is mended as %q", what, diskTexts(got))
		}
	}
}

func TestP53WhatIsPackedIsOpenedAsItIs(t *testing.T) {
	d := dice(53)
	for range 120 {
		disk, s := someDisk(t, &d)
		packed, list := checkStorePack(t, s)
		disk = writeAll(t, disk, list)
		if got, ok := checkOpen(t, disk); !ok || !sameStore(got, packed) {
			t.Fatalf("%q opens as %v, %v, not %v", diskTexts(disk), got, ok, packed)
		}
		if disk.Log != "" || disk.List != impl.StoreList(packed) || len(disk.Files) != len(packed.Held) {
			t.Fatalf("packed it is %q", diskTexts(disk))
		}
		if mended, ok := impl.DiskMend(disk); !ok || !sameDisk(mended, disk) {
			t.Fatalf("%q is mended as %q, %v", diskTexts(disk), diskTexts(mended), ok)
		}
	}
	for what, s := range goodStores() {
		if s.Fresh > impl.NumMax-4*impl.HeldMax {
			continue
		}
		packed, list := checkStorePack(t, s)
		if got, ok := checkOpen(t, writeAll(t, cutDisk(s, ""), list)); !ok || !sameStore(got, packed) {
			t.Errorf("%s: it opens as %v, %v, not %v", what, got, ok, packed)
		}
	}
}

// opened is all lists of one answer.
type opened struct {
	Store impl.Store
	Disk  impl.Disk
}

func TestDisksLeaveTheirArguments(t *testing.T) {
	d := dice(10)
	var disks []impl.Disk
	for what, disk := range goodDisks() {
		if what != "a list of any" {
			disks = append(disks, disk)
		}
	}
	for range 10 {
		disk, s := someDisk(t, &d)
		torn := disk
		torn.Log += "x"
		disks = append(disks, disk, torn, cutDisk(s, ""), cutDisk(s, linesFrom(s.Next, dropRec("[a=x]", 0, 10))))
	}
	disks = append(disks, wrongDisks()["an Id twice"], cutDisk(twoHeld(), linesFrom(5, keepRec(100))))
	for _, disk := range disks {
		disk = roomy(disk)
		h := hand(disk)
		s, _ := impl.DiskOpen(disk)
		h.check(t, "DiskOpen", s)
		mended, _ := impl.DiskMend(disk)
		h.check(t, "DiskMend", opened{s, mended})
		impl.DiskOk(disk)
		h.check(t, "DiskOk")
		for _, w := range someWrites() {
			if len(w.Text) > 1000 {
				continue
			}
			w = roomy(w)
			h := hand(disk, w)
			h.check(t, fmt.Sprint("DiskDo of ", w), impl.DiskDo(disk, w))
			for _, bytes := range []int{0, 2, 1000} {
				h.check(t, fmt.Sprint("DiskTorn of ", w), impl.DiskTorn(disk, w, bytes))
			}
		}
	}
}
