package tests

import (
	"fmt"
	"hash/crc32"
	"math"
	"regexp"
	"slices"
	"strconv"
	"strings"
	"testing"

	"loop.example/almanack/impl"
)

type recs = []impl.Rec

func sameEntry(a, b impl.Entry) bool {
	return slices.Equal(a.Labels, b.Labels) && a.T == b.T && a.V == b.V
}

func sameRec(a, b impl.Rec) bool {
	return a.Kind == b.Kind && slices.EqualFunc(a.Batch, b.Batch, sameEntry) && slices.Equal(a.List, b.List) && a.From == b.From && a.To == b.To
}

func sameRecs(a, b recs) bool {
	return slices.EqualFunc(a, b, sameRec)
}

func matchesText(list matches) string {
	var parts []string
	for _, m := range list {
		parts = append(parts, m.Name+"=!^~"[m.Kind-1:m.Kind]+m.Word)
	}
	return "[" + strings.Join(parts, ",") + "]"
}

// recText is what RecPut must write.
func recText(r impl.Rec) string {
	switch r.Kind {
	case 1:
		out := "A"
		for _, e := range r.Batch {
			out += fmt.Sprintf(" %s %d %d", labelsText(e.Labels), e.T, e.V)
		}
		return out
	case 2:
		return fmt.Sprintf("D %s %d %d", matchesText(r.List), r.From, r.To)
	}
	return fmt.Sprintf("K %d", r.From)
}

// logLine is a text under a number as it stands in a log.
func logLine(num int, text string) string {
	return fmt.Sprintf("%d %d %s %d\n", num, len(text), text, crc32.ChecksumIEEE(fmt.Appendf(nil, "%d %s", num, text)))
}

var (
	recForm  = regexp.MustCompile(`^(A( \{[a-z=,]*\} (0|[1-9][0-9]{0,9}) (0|[1-9][0-9]{0,9})){1,6}|D \[[a-z=!^~,]*\] (0|[1-9][0-9]{0,9}) (0|[1-9][0-9]{0,9})|K (0|[1-9][0-9]{0,9}))$`)
	lineForm = regexp.MustCompile(`^(0|[1-9][0-9]{0,3}) (0|[1-9][0-9]*) ([^\n]*) (0|[1-9][0-9]*)\n`)
)

// recIn reads a record by a form, and then by the limits.
func recIn(text string) (impl.Rec, bool) {
	if !recForm.MatchString(text) {
		return impl.Rec{}, false
	}
	words := strings.Fields(text)
	nums := make([]int, len(words))
	for i := range words {
		nums[i], _ = strconv.Atoi(words[i])
	}
	switch words[0] {
	case "D":
		list, ok := matchesIn(words[1])
		ok = ok && nums[2] <= 9999 && nums[3] >= nums[2] && nums[3] <= 10000
		return impl.Rec{Kind: 2, List: list, From: nums[2], To: nums[3]}, ok
	case "K":
		return impl.Rec{Kind: 3, From: nums[1]}, nums[1] <= 9999 && nums[1]%100 == 0
	}
	r := impl.Rec{Kind: 1}
	for i := 1; i < len(words); i += 3 {
		list, ok := labelsIn(words[i])
		if !ok || nums[i+1] > 9999 || nums[i+2] > 2147483647 {
			return impl.Rec{}, false
		}
		r.Batch = append(r.Batch, impl.Entry{Labels: list, T: nums[i+1], V: nums[i+2]})
	}
	return r, true
}

// logIn reads a log by forms.
func logIn(text string) (int, recs, int) {
	if len(text) > 100000 {
		return 0, nil, 0
	}
	first, at := 0, 0
	var list recs
	for {
		parts := lineForm.FindStringSubmatch(text[at:])
		if parts == nil {
			return first, list, at
		}
		num, _ := strconv.Atoi(parts[1])
		r, ok := recIn(parts[3])
		if !ok || parts[0] != logLine(num, parts[3]) || len(list) > 0 && num != first+len(list) {
			return first, list, at
		}
		if len(list) == 0 {
			first = num
		}
		list = append(list, r)
		at += len(parts[0])
	}
}

func addRec(batch ...impl.Entry) impl.Rec {
	return impl.Rec{Kind: impl.RecAdd, Batch: batch}
}

func dropRec(rules string, from, to int) impl.Rec {
	list, _ := matchesIn(rules)
	return impl.Rec{Kind: impl.RecDrop, List: list, From: from, To: to}
}

func keepRec(from int) impl.Rec {
	return impl.Rec{Kind: impl.RecKeep, From: from}
}

func someRec(d *dice) impl.Rec {
	switch d.below(4) {
	case 0:
		from := d.below(10000)
		return impl.Rec{Kind: impl.RecDrop, List: someMatches(d), From: from, To: from + d.below(10001-from)}
	case 1:
		return keepRec(d.below(100) * 100)
	}
	r := impl.Rec{Kind: impl.RecAdd}
	for range 1 + d.below(impl.BatchMax) {
		r.Batch = append(r.Batch, impl.Entry{Labels: someLabels(d), T: d.below(10000), V: d.below(impl.ValueMax)})
	}
	return r
}

// someLog is records from a number on, and where each ends.
func someLog(d *dice, first, n int) (string, recs, []int) {
	text, list, ends := "", recs(nil), []int{0}
	for i := range n {
		r := someRec(d)
		list = append(list, r)
		text += logLine(first+i, recText(r))
		ends = append(ends, len(text))
	}
	return text, list, ends
}

func goodRecs() map[string]impl.Rec {
	six := slices.Repeat(entries{entry("{a=x}", 5, 5)}, impl.BatchMax)
	out := map[string]impl.Rec{
		"A {a=x} 0 0":                         addRec(entry("{a=x}", 0, 0)),
		"A {a=x} 9999 2147483647":             addRec(entry("{a=x}", impl.TimeMax, impl.ValueMax)),
		"A {a=x} 5 5 {b=y,c=z} 3 1":           addRec(entry("{a=x}", 5, 5), entry("{b=y,c=z}", 3, 1)),
		"A" + strings.Repeat(" {a=x} 5 5", 6): addRec(six...),
		"D [] 0 0":                            dropRec("[]", 0, 0),
		"D [] 0 10000":                        dropRec("[]", 0, 10000),
		"D [a=] 7 7":                          dropRec("[a=]", 7, 7),
		"D [] 0 9999":                         dropRec("[]", 0, 9999),
		"D [] 9999 9999":                      dropRec("[]", 9999, 9999),
		"D [] 9999 10000":                     dropRec("[]", 9999, 10000),
		"D [a=x,a!x,a^x,a~x] 5 6":             dropRec("[a=x,a!x,a^x,a~x]", 5, 6),
		"K 0":                                 keepRec(0),
		"K 100":                               keepRec(100),
		"K 9900":                              keepRec(9900),
	}
	for text, list := range goodLabels {
		out["A "+text+" 5 6"] = impl.Rec{Kind: 1, Batch: entries{{Labels: list, T: 5, V: 6}}, List: matches{}}
	}
	for text, list := range goodMatches {
		out["D "+text+" 5 6"] = impl.Rec{Kind: 2, Batch: entries{}, List: list, From: 5, To: 6}
	}
	return out
}

func wrongRecs() map[string]impl.Rec {
	one, none := addRec(entry("{a=x}", 5, 5)), matches{{Kind: 1, Name: "a"}}
	out := map[string]impl.Rec{
		"nothing":                   {},
		"kind 4":                    {Kind: 4},
		"kind 4 with entries":       {Kind: 4, Batch: one.Batch},
		"kind -1":                   {Kind: -1, Batch: one.Batch},
		"kind 0 with entries":       {Batch: one.Batch},
		"kind 257":                  {Kind: 257, Batch: one.Batch},
		"no entries":                {Kind: 1},
		"no entries, but a list":    {Kind: 1, Batch: entries{}},
		"seven entries":             addRec(slices.Repeat(one.Batch, 7)...),
		"a time below 0":            addRec(entry("{a=x}", -1, 5)),
		"a time too great":          addRec(entry("{a=x}", 10000, 5)),
		"a number below 0":          addRec(entry("{a=x}", 5, -1)),
		"a number too great":        addRec(entry("{a=x}", 5, impl.ValueMax+1)),
		"the last without labels":   addRec(entry("{a=x}", 5, 5), entry("", 5, 5)),
		"the last with no time":     addRec(entry("{a=x}", 5, 5), entry("{a=x}", -1, 5)),
		"entries and matches":       {Kind: 1, Batch: one.Batch, List: none},
		"entries and From":          {Kind: 1, Batch: one.Batch, From: 1},
		"entries and From below 0":  {Kind: 1, Batch: one.Batch, From: -1},
		"entries and To":            {Kind: 1, Batch: one.Batch, To: 1},
		"entries and To below 0":    {Kind: 1, Batch: one.Batch, To: -1},
		"entries and times":         {Kind: 1, Batch: one.Batch, From: 100, To: 200},
		"a drop with entries":       {Kind: 2, Batch: one.Batch, From: 5, To: 6},
		"a drop, From below 0":      {Kind: 2, From: -1, To: 6},
		"a drop, both below 0":      {Kind: 2, From: -2, To: -1},
		"a drop, From at 10000":     {Kind: 2, From: 10000, To: 10000},
		"a drop, To at 10001":       {Kind: 2, From: 0, To: 10001},
		"a drop, To below From":     {Kind: 2, From: 5, To: 4},
		"a drop, To 0":              {Kind: 2, From: 1, To: 0},
		"a drop, To below 0":        {Kind: 2, From: 0, To: -1},
		"a keep with entries":       {Kind: 3, Batch: one.Batch, From: 100},
		"a keep with matches":       {Kind: 3, List: none, From: 100},
		"a keep with To":            {Kind: 3, From: 100, To: 100},
		"a keep with To below 0":    {Kind: 3, From: 100, To: -1},
		"a keep, From at 10000":     keepRec(10000),
		"a keep, From below 0":      keepRec(-100),
		"a keep, From not divided":  keepRec(50),
		"a keep, From one more":     keepRec(101),
		"a keep, From at the end":   keepRec(9999),
		"a keep, From -1":           keepRec(-1),
		"a keep, From at 1":         keepRec(1),
		"a drop that is kind 3":     {Kind: 3, From: 5, To: 6},
		"a drop that is kind 1":     {Kind: 1, List: none, From: 5, To: 6},
		"a keep that is kind 1":     {Kind: 1, From: 100},
		"a keep that is kind 4":     {Kind: 4, From: 100},
		"entries that are kind 2":   {Kind: 2, Batch: one.Batch},
		"entries that are kind 3":   {Kind: 3, Batch: one.Batch},
		"matches too many, and To":  {Kind: 2, List: slices.Repeat(none, 5), From: 5, To: 6},
		"matches that are kind 3":   {Kind: 3, List: none},
		"matches with From behind":  {Kind: 2, List: none, From: 9, To: 6},
		"matches with times beside": {Kind: 2, List: none, From: 0, To: 20000},
	}
	for what, list := range wrongLabels {
		out["labels, "+what] = impl.Rec{Kind: 1, Batch: entries{{Labels: list, T: 5, V: 5}}}
	}
	for what, list := range wrongMatches {
		out["matches, "+what] = impl.Rec{Kind: 2, List: list, From: 5, To: 6}
	}
	for _, n := range farNumbers {
		out[fmt.Sprint("kind ", n)] = impl.Rec{Kind: n, Batch: one.Batch}
		out[fmt.Sprint("T ", n)] = addRec(entry("{a=x}", n, 5))
		out[fmt.Sprint("From ", n)] = impl.Rec{Kind: 2, From: n, To: n}
		out[fmt.Sprint("To ", n)] = impl.Rec{Kind: 2, From: 0, To: n}
		out[fmt.Sprint("Floor ", n)] = keepRec(n)
		out[fmt.Sprint("Floor in bases ", n)] = keepRec(n / 100 * 100)
		if n != math.MaxInt32 {
			out[fmt.Sprint("V ", n)] = addRec(entry("{a=x}", 5, n))
		}
	}
	return out
}

func checkRec(t *testing.T, text string, r impl.Rec) {
	t.Helper()
	if !impl.RecOk(r) {
		t.Fatalf("RecOk(%v) is false", r)
	}
	if got := impl.RecPut(r); got != text {
		t.Fatalf("RecPut(%v) is %q, not %q", r, got, text)
	}
	if got, ok := impl.RecGet(text); !ok || !sameRec(got, r) {
		t.Fatalf("RecGet(%q) is %v, %v", text, got, ok)
	}
}

func TestP37RecordsAreReadBack(t *testing.T) {
	for text, r := range goodRecs() {
		checkRec(t, text, r)
	}
	d := dice(37)
	for range 3000 {
		r := someRec(&d)
		checkRec(t, recText(r), r)
	}
	for what, r := range wrongRecs() {
		if impl.RecOk(r) {
			t.Errorf("%s: RecOk is true", what)
		}
		if got := impl.RecPut(r); got != "" {
			t.Errorf("%s: RecPut is %q", what, got)
		}
	}
	for from := -1; from <= impl.TimeMax+1; from++ {
		if got := impl.RecOk(keepRec(from)); got != (from%100 == 0 && from < 10000) {
			t.Errorf("a keep from %d: RecOk is %v", from, got)
		}
	}
}

func noRec(t *testing.T, what string, text string) {
	t.Helper()
	if got, ok := impl.RecGet(text); ok || !sameRec(got, impl.Rec{}) {
		t.Errorf("%s: RecGet(%q) is %v, %v", what, text, got, ok)
	}
}

func TestP37TextsThatAreNone(t *testing.T) {
	for what, text := range map[string]string{
		"nothing":                    "",
		"a blank":                    " ",
		"another kind":               "X",
		"another kind with all":      "B {a=x} 5 5",
		"a lesser letter":            "a {a=x} 5 5",
		"two letters":                "AA {a=x} 5 5",
		"no kind":                    "{a=x} 5 5",
		"no entries":                 "A",
		"no entries, a blank":        "A ",
		"no blank":                   "A{a=x} 5 5",
		"a blank ahead":              " A {a=x} 5 5",
		"a blank behind":             "A {a=x} 5 5 ",
		"two blanks":                 "A  {a=x} 5 5",
		"two blanks between":         "A {a=x} 5  5",
		"two blanks between entries": "A {a=x} 5 5  {a=x} 5 5",
		"a tab":                      "A {a=x} 5\t5",
		"a newline":                  "A {a=x} 5 5\n",
		"no number":                  "A {a=x}",
		"one number":                 "A {a=x} 5",
		"three numbers":              "A {a=x} 5 5 5",
		"a time that is empty":       "A {a=x}  5",
		"a number that is empty":     "A {a=x} 5 ",
		"the last breaks off":        "A {a=x} 5 5 {a=x} 5",
		"the last without numbers":   "A {a=x} 5 5 {a=x}",
		"the last without labels":    "A {a=x} 5 5 5 5",
		"seven":                      "A" + strings.Repeat(" {a=x} 5 5", 7),
		"no labels":                  "A {} 5 5",
		"labels out of order":        "A {b=x,a=x} 5 5",
		"matches for labels":         "A [a=x] 5 5",
		"numbers ahead of labels":    "A 5 5 {a=x}",
		"a nought ahead":             "A {a=x} 05 5",
		"a nought ahead of V":        "A {a=x} 5 05",
		"two noughts":                "A {a=x} 00 5",
		"a sign":                     "A {a=x} +5 5",
		"a sign of V":                "A {a=x} 5 +5",
		"below 0":                    "A {a=x} -5 5",
		"0 below 0":                  "A {a=x} -0 5",
		"V below 0":                  "A {a=x} 5 -5",
		"V 0 below 0":                "A {a=x} 5 -0",
		"a time too great":           "A {a=x} 10000 5",
		"V too great":                "A {a=x} 5 2147483648",
		"V that is too long":         "A {a=x} 5 99999999999999999999",
		"V that wraps round":         "A {a=x} 5 18446744073709551621",
		"a bar":                      "A {a=x} 1_0 5",
		"figures of another kind":    "A {a=x} 0x5 5",
		"a letter":                   "A {a=x} x 5",
		"figures that are not plain": "A {a=x} ５ 5",
		"a drop alone":               "D",
		"a drop without matches":     "D 5 6",
		"a drop with labels":         "D {a=x} 5 6",
		"a drop with one time":       "D [] 5",
		"a drop without times":       "D []",
		"a drop with three times":    "D [] 5 6 7",
		"a drop with a blank":        "D [] 5 6 ",
		"a drop with two blanks":     "D []  5 6",
		"a drop, no blank":           "D[] 5 6",
		"a drop, To below From":      "D [] 5 4",
		"a drop, From too great":     "D [] 10000 10000",
		"a drop, To too great":       "D [] 5 10001",
		"a drop below 0":             "D [] -1 6",
		"a drop, a nought ahead":     "D [] 05 6",
		"a drop, a nought ahead, To": "D [] 5 06",
		"a drop, a sign":             "D [] 5 +6",
		"a drop, five matches":       "D [a=,a=,a=,a=,a=] 5 6",
		"a drop, a blank in matches": "D [a=, b=] 5 6",
		"a drop and entries":         "D [] 5 6 {a=x} 5 5",
		"a keep alone":               "K",
		"a keep with a blank":        "K ",
		"a keep with two blanks":     "K  100",
		"a keep with a blank behind": "K 100 ",
		"a keep, no blank":           "K100",
		"a keep with two times":      "K 100 200",
		"a keep, not divided":        "K 50",
		"a keep, a nought ahead":     "K 0100",
		"a keep, two noughts":        "K 00",
		"a keep, a sign":             "K +100",
		"a keep below 0":             "K -100",
		"a keep, 0 below 0":          "K -0",
		"a keep too great":           "K 10000",
		"a keep with matches":        "K [] 100",
		"two records":                "K 100 K 200",
	} {
		noRec(t, what, text)
	}
	for what, list := range wrongLabels {
		noRec(t, "labels, "+what, "A "+labelsText(list)+" 5 5")
	}
	for what, list := range wrongMatches {
		if !slices.ContainsFunc(list, func(m impl.Match) bool { return m.Kind < 1 || m.Kind > 4 }) {
			noRec(t, "matches, "+what, "D "+matchesText(list)+" 5 6")
		}
	}
}

func TestP37WhatIsReadIsPutJustSo(t *testing.T) {
	d := dice(3737)
	read := 0
	check := func(text string) {
		want, fine := recIn(text)
		if !fine {
			want = impl.Rec{}
		}
		got, ok := impl.RecGet(text)
		if ok {
			read++
		}
		if ok != fine || !sameRec(got, want) || ok && impl.RecPut(got) != text {
			t.Fatalf("RecGet(%q) is %v, %v, not %v, %v", text, got, ok, want, fine)
		}
	}
	for range 40000 {
		text := turned(&d, recText(someRec(&d)), "ADK{}[]=!^~,ab 0123459+-")
		check(text)
		check(turned(&d, text, "ADK{}[]=!^~,ab 0123459+-"))
	}
	if read < 10000 || read > 70000 {
		t.Errorf("%d texts were read", read)
	}
}

func TestP38LogPut(t *testing.T) {
	d := dice(38)
	for _, num := range []int{0, 1, 9, 10, 99, 100, 999, 1000, impl.NumMax - 1, impl.NumMax} {
		for text, r := range goodRecs() {
			if got, want := impl.LogPut(num, r), logLine(num, text); got != want {
				t.Fatalf("LogPut(%d, %v) is %q, not %q", num, r, got, want)
			}
		}
	}
	for range 2000 {
		num, r := d.below(impl.NumMax+1), someRec(&d)
		if got, want := impl.LogPut(num, r), logLine(num, recText(r)); got != want {
			t.Fatalf("LogPut(%d, %v) is %q, not %q", num, r, got, want)
		}
	}
	for _, num := range append([]int{-1, -100, impl.NumMax + 1, 100000}, farNumbers...) {
		if got := impl.LogPut(num, keepRec(100)); got != "" {
			t.Errorf("LogPut of %d is %q", num, got)
		}
	}
	for what, r := range wrongRecs() {
		if got := impl.LogPut(5, r); got != "" {
			t.Errorf("%s: LogPut is %q", what, got)
		}
	}
}

// checkLog holds LogGet against the forms, and against LogPut.
func checkLog(t *testing.T, text string) (int, recs, int) {
	t.Helper()
	first, list, bytes := impl.LogGet(text)
	wantFirst, want, wantBytes := logIn(text)
	if first != wantFirst || bytes != wantBytes || !sameRecs(list, want) {
		t.Fatalf("LogGet(%q) is %d, %v, %d, not %d, %v, %d", text, first, list, bytes, wantFirst, want, wantBytes)
	}
	again := ""
	for i, r := range list {
		again += impl.LogPut(first+i, r)
	}
	if again != text[:bytes] {
		t.Fatalf("LogGet(%q) is put again as %q", text, again)
	}
	return first, list, bytes
}

func TestP38WhatIsReadIsHowTheLogBegins(t *testing.T) {
	d := dice(3838)
	for range 400 {
		from, n := d.below(9000), d.below(12)
		text, list, _ := someLog(&d, from, n)
		first, got, bytes := checkLog(t, text)
		if !sameRecs(got, list) || bytes != len(text) || n > 0 && first != from {
			t.Fatalf("LogGet(%q) is %d, %v, %d", text, first, got, bytes)
		}
		more := someRec(&d)
		if _, got, bytes := checkLog(t, text+logLine(from+n, recText(more))); len(got) != n+1 || !sameRec(got[n], more) || bytes <= len(text) {
			t.Fatalf("one more is not read behind %q", text)
		}
	}
}

func TestP38NumbersThatDontGoOn(t *testing.T) {
	put := func(nums ...int) string {
		out := ""
		for _, num := range nums {
			out += logLine(num, fmt.Sprintf("K %d", num%100*100))
		}
		return out
	}
	cases := []struct {
		nums        []int
		first, read int
	}{
		{[]int{0}, 0, 1},
		{[]int{0, 1, 2}, 0, 3},
		{[]int{7, 8, 9, 10, 11}, 7, 5},
		{[]int{7, 7}, 7, 1},
		{[]int{7, 9}, 7, 1},
		{[]int{7, 6}, 7, 1},
		{[]int{7, 9, 8}, 7, 1},
		{[]int{7, 9, 10}, 7, 1},
		{[]int{7, 8, 8, 9}, 7, 2},
		{[]int{7, 8, 7, 8}, 7, 2},
		{[]int{7, 8, 0, 1}, 7, 2},
		{[]int{0, 0}, 0, 1},
		{[]int{0, 2}, 0, 1},
		{[]int{1, 0}, 1, 1},
		{[]int{9998, 9999}, 9998, 2},
		{[]int{9999}, 9999, 1},
		{[]int{9999, 0}, 9999, 1},
		{[]int{9998, 9999, 10000}, 9998, 2},
		{[]int{10000}, 0, 0},
		{[]int{10000, 10001}, 0, 0},
		{nil, 0, 0},
	}
	for _, c := range cases {
		first, list, bytes := checkLog(t, put(c.nums...))
		if first != c.first || len(list) != c.read || bytes != len(put(c.nums[:c.read]...)) {
			t.Errorf("of %v it is %d, %v, %d", c.nums, first, list, bytes)
		}
	}
}

func TestP38RecordsThatAreNone(t *testing.T) {
	good := logLine(7, "K 100") + logLine(8, "A {a=x} 5 5")
	sum := func(text string) int { return int(crc32.ChecksumIEEE([]byte(text))) }
	wrong := map[string]string{
		"nothing":                       "",
		"a newline":                     "\n",
		"a blank":                       " ",
		"blanks and a newline":          "   \n",
		"half a number":                 "9",
		"a newline ahead":               "\n" + logLine(9, "K 200"),
		"a blank ahead":                 " " + logLine(9, "K 200"),
		"a return":                      strings.ReplaceAll(logLine(9, "K 200"), "\n", "\r\n"),
		"a blank behind":                strings.ReplaceAll(logLine(9, "K 200"), "\n", " \n"),
		"a nought ahead":                "0" + logLine(9, "K 200"),
		"a nought ahead, summed so":     fmt.Sprintf("09 5 K 200 %d\n", sum("09 K 200")),
		"a sign, summed so":             fmt.Sprintf("+9 5 K 200 %d\n", sum("+9 K 200")),
		"a number below 0":              fmt.Sprintf("-9 5 K 200 %d\n", sum("-9 K 200")),
		"no number":                     fmt.Sprintf("5 K 200 %d\n", sum("9 K 200")),
		"an empty number":               fmt.Sprintf(" 5 K 200 %d\n", sum(" K 200")),
		"a letter":                      fmt.Sprintf("x 5 K 200 %d\n", sum("x K 200")),
		"a byte less told":              fmt.Sprintf("9 4 K 200 %d\n", sum("9 K 200")),
		"a byte more told":              fmt.Sprintf("9 6 K 200 %d\n", sum("9 K 200")),
		"no bytes told":                 fmt.Sprintf("9 K 200 %d\n", sum("9 K 200")),
		"bytes with a nought ahead":     fmt.Sprintf("9 05 K 200 %d\n", sum("9 K 200")),
		"bytes with a sign":             fmt.Sprintf("9 +5 K 200 %d\n", sum("9 K 200")),
		"bytes below 0":                 fmt.Sprintf("9 -5 K 200 %d\n", sum("9 K 200")),
		"bytes that are far":            fmt.Sprintf("9 99999999999999999999 K 200 %d\n", sum("9 K 200")),
		"bytes that wrap round":         fmt.Sprintf("9 18446744073709551621 K 200 %d\n", sum("9 K 200")),
		"a blank too many":              fmt.Sprintf("9 5  K 200 %d\n", sum("9 K 200")),
		"a blank too many ahead":        fmt.Sprintf("9  5 K 200 %d\n", sum("9 K 200")),
		"a blank too many behind":       fmt.Sprintf("9 5 K 200  %d\n", sum("9 K 200")),
		"no sum":                        "9 5 K 200\n",
		"no sum, a blank":               "9 5 K 200 \n",
		"a sum of another number":       fmt.Sprintf("9 5 K 200 %d\n", sum("8 K 200")),
		"a sum of the text alone":       fmt.Sprintf("9 5 K 200 %d\n", sum("K 200")),
		"a sum of the bytes, too":       fmt.Sprintf("9 5 K 200 %d\n", sum("9 5 K 200")),
		"a sum with a nought ahead":     fmt.Sprintf("9 5 K 200 0%d\n", sum("9 K 200")),
		"a sum with a sign":             fmt.Sprintf("9 5 K 200 +%d\n", sum("9 K 200")),
		"a sum with something behind":   fmt.Sprintf("9 5 K 200 %d x\n", sum("9 K 200")),
		"another sum":                   fmt.Sprintf("9 5 K 200 %d\n", sum("9 K 200")+1),
		"the next sum of so many":       fmt.Sprintf("9 5 K 200 %d\n", sum("9 K 200")+1<<32),
		"a text that is none":           logLine(9, "K 50"),
		"an empty text":                 logLine(9, ""),
		"a text of a blank":             logLine(9, " "),
		"a text of a newline":           logLine(9, "\n"),
		"a text with a newline":         logLine(9, "K 200\n"),
		"a text with two records":       logLine(9, "K 200 K 200"),
		"a text with a nought ahead":    logLine(9, "K 0200"),
		"a record in a record":          logLine(9, strings.TrimSuffix(logLine(9, "K 200"), "\n")),
		"a drop that is none":           logLine(9, "D [] 5 4"),
		"entries that are too many":     logLine(9, "A"+strings.Repeat(" {a=x} 5 5", 7)),
		"bytes of any kind":             "\x00\xff\xfe\n",
		"only blanks where words stand": "9   \n",
	}
	for what, text := range wrong {
		for _, behind := range []string{"", "\n", logLine(9, "K 200"), logLine(10, "K 300")} {
			if behind == logLine(9, "K 200") && text == "" {
				continue
			}
			first, list, bytes := checkLog(t, good+text+behind)
			if first != 7 || len(list) != 2 || bytes != len(good) {
				t.Errorf("%s: behind two records it is %d, %v, %d", what, first, list, bytes)
			}
		}
		if first, list, bytes := checkLog(t, text); first != 0 || list != nil || bytes != 0 {
			t.Errorf("%s: alone it is %d, %v, %d", what, first, list, bytes)
		}
	}
}

// fullLog is records that have just so many bytes, and how many they are.
func fullLog(t *testing.T, size int) (string, int) {
	d := dice(99)
	var out strings.Builder
	n := 0
	for out.Len() < size-1500 {
		out.WriteString(logLine(n, recText(someRec(&d))))
		n++
	}
	for range 1000000 {
		line := logLine(n, recText(someRec(&d)))
		switch left := size - out.Len() - len(line); {
		case left == 0:
			out.WriteString(line)
			return out.String(), n + 1
		case left > 200:
			out.WriteString(line)
			n++
		}
	}
	t.Fatal("no log has just so many bytes")
	return "", 0
}

func TestP38LogsThatAreLong(t *testing.T) {
	text, n := fullLog(t, impl.LogMax)
	if _, list, bytes := checkLog(t, text); len(text) != impl.LogMax || len(list) != n || bytes != impl.LogMax {
		t.Errorf("of %d bytes %d are read, %d records of %d", len(text), bytes, len(list), n)
	}
	for _, more := range []string{"x", "\n", logLine(n, "K 100")} {
		if first, list, bytes := checkLog(t, text+more); first != 0 || list != nil || bytes != 0 {
			t.Errorf("of %d bytes %d are read", len(text+more), bytes)
		}
	}
	one := logLine(7, "K 100")
	for _, fill := range []string{"x", "\n", " ", "7 "} {
		full := (one + strings.Repeat(fill, impl.LogMax))[:impl.LogMax]
		if first, list, bytes := checkLog(t, full); first != 7 || len(list) != 1 || bytes != len(one) {
			t.Errorf("of a log filled with %q it is %d, %v, %d", fill, first, list, bytes)
		}
		if first, list, bytes := checkLog(t, full+fill); first != 0 || list != nil || bytes != 0 {
			t.Errorf("of a log filled with %q, and one more, it is %d, %v, %d", fill, first, list, bytes)
		}
	}
}

func TestP39LogsThatBreakOff(t *testing.T) {
	d := dice(39)
	for range 12 {
		from := d.below(9990)
		text, list, ends := someLog(&d, from, 1+d.below(4))
		for at := range len(text) + 1 {
			whole := 0
			for whole+1 < len(ends) && ends[whole+1] <= at {
				whole++
			}
			first, got, bytes := checkLog(t, text[:at])
			if !sameRecs(got, list[:whole]) || bytes != ends[whole] || whole > 0 && first != from || whole == 0 && first != 0 {
				t.Fatalf("%q cut at %d is %d, %v, %d", text, at, first, got, bytes)
			}
		}
	}
}

func TestP39LogsWithAByteTurned(t *testing.T) {
	d := dice(3939)
	for range 6 {
		from := d.below(9990)
		text, _, _ := someLog(&d, from, 1+d.below(3))
		for at := range len(text) {
			first, list, bytes := impl.LogGet(text[:at])
			for by := 1; by < 256; by++ {
				spoilt := []byte(text)
				spoilt[at] ^= byte(by)
				gotFirst, got, gotBytes := impl.LogGet(string(spoilt))
				if gotFirst != first || gotBytes != bytes || !sameRecs(got, list) {
					t.Fatalf("%q is %d, %v, %d", spoilt, gotFirst, got, gotBytes)
				}
			}
		}
	}
	for range 15000 {
		text, _, _ := someLog(&d, d.below(100), 1+d.below(4))
		checkLog(t, turned(&d, text, "ADK{}[]=!^~,ab 0123459+-\n"))
	}
}

func TestLogLeavesItsArguments(t *testing.T) {
	d := dice(8)
	for range 60 {
		r := roomy(someRec(&d))
		h := hand(r)
		impl.RecOk(r)
		text := impl.RecPut(r)
		h.check(t, "RecPut", text)
		h.check(t, "LogPut", impl.LogPut(7, r))
		got, _ := impl.RecGet(text)
		hand(text).check(t, "RecGet", got)
		log, _, _ := someLog(&d, 3, 4)
		for _, log := range []string{log, log + "x"} {
			_, list, _ := impl.LogGet(log)
			hand(log).check(t, "LogGet", list)
		}
	}
}
