package tests

import (
	"fmt"
	"regexp"
	"slices"
	"strings"
	"testing"

	"loop.example/almanack/impl"
)

type (
	labels  = []impl.Label
	matches = []impl.Match
)

// labelsOf makes labels of names and words, in turn.
func labelsOf(words ...string) labels {
	var list labels
	for i := 0; i+1 < len(words); i += 2 {
		list = append(list, impl.Label{Name: words[i], Word: words[i+1]})
	}
	return list
}

var labelsForm = regexp.MustCompile(`^\{[a-z]{1,6}=[a-z]{1,8}(,[a-z]{1,6}=[a-z]{1,8}){0,3}\}$`)
var matchesForm = regexp.MustCompile(`^\[([a-z]{1,6}[=!^~][a-z]{0,8}(,[a-z]{1,6}[=!^~][a-z]{0,8}){0,3})?\]$`)

// labelsIn is what LabelsGet must read, found by the form of the text.
func labelsIn(text string) (labels, bool) {
	if !labelsForm.MatchString(text) {
		return nil, false
	}
	list := labelsOf(strings.FieldsFunc(text, func(r rune) bool { return strings.ContainsRune("{=,}", r) })...)
	for i := 1; i < len(list); i++ {
		if list[i-1].Name >= list[i].Name {
			return nil, false
		}
	}
	return list, true
}

// matchesIn is what MatchesGet must read, found by the form of the text.
func matchesIn(text string) (matches, bool) {
	if !matchesForm.MatchString(text) {
		return nil, false
	}
	var list matches
	for _, part := range regexp.MustCompile(`([a-z]+)([=!^~])([a-z]*)`).FindAllStringSubmatch(text, -1) {
		list = append(list, impl.Match{Kind: 1 + strings.Index("=!^~", part[2]), Name: part[1], Word: part[3]})
	}
	return list, true
}

func checkLabelsGet(t *testing.T, text string) bool {
	t.Helper()
	want, fine := labelsIn(text)
	got, ok := impl.LabelsGet(text)
	if ok != fine || !slices.Equal(got, want) {
		t.Fatalf("LabelsGet(%q) is %v, %v, not %v, %v", text, got, ok, want, fine)
	}
	if ok && impl.LabelsPut(got) != text {
		t.Fatalf("%q is put as %q", text, impl.LabelsPut(got))
	}
	return ok
}

func checkMatchesGet(t *testing.T, text string) bool {
	t.Helper()
	want, fine := matchesIn(text)
	got, ok := impl.MatchesGet(text)
	if ok != fine || !slices.Equal(got, want) {
		t.Fatalf("MatchesGet(%q) is %v, %v, not %v, %v", text, got, ok, want, fine)
	}
	if ok && impl.MatchesPut(got) != text {
		t.Fatalf("%q is put as %q", text, impl.MatchesPut(got))
	}
	return ok
}

// eachText tells all texts of so many of these bytes.
func eachText(alphabet string, size int, tell func(string)) {
	text := make([]byte, size)
	var fill func(int)
	fill = func(at int) {
		if at == size {
			tell(string(text))
			return
		}
		for i := range len(alphabet) {
			text[at] = alphabet[i]
			fill(at + 1)
		}
	}
	fill(0)
}

// turned is a text with a byte changed, more, or less, now and then with none.
func turned(d *dice, text string, alphabet string) string {
	at, by := d.below(len(text)+1), string(alphabet[d.below(len(alphabet))])
	switch {
	case d.below(8) == 0 || at == len(text) && d.below(2) == 0:
		return text
	case at == len(text) || d.below(3) == 0:
		return text[:at] + by + text[at:]
	case d.below(2) == 0:
		return text[:at] + text[at+1:]
	}
	return text[:at] + by + text[at+1:]
}

// word makes letters out of few, so that words are often the same, or the beginning of others.
func (d *dice) word(least, most int) string {
	out := make([]byte, least+d.below(most-least+1))
	for i := range out {
		out[i] = "aabz"[d.below(4)]
	}
	return string(out)
}

func someLabels(d *dice) labels {
	byName := map[string]string{}
	for range 1 + d.below(impl.LabelMax) {
		byName[d.word(1, 1+d.below(impl.NameMax))] = d.word(1, 1+d.below(impl.WordMax))
	}
	var list labels
	for name, word := range byName {
		list = append(list, impl.Label{Name: name, Word: word})
	}
	slices.SortFunc(list, func(a, b impl.Label) int { return strings.Compare(a.Name, b.Name) })
	return list
}

func someMatches(d *dice) matches {
	var list matches
	for range d.below(impl.MatchMax + 1) {
		list = append(list, impl.Match{Kind: 1 + d.below(4), Name: d.word(1, 1+d.below(impl.NameMax)), Word: d.word(0, d.below(impl.WordMax+1))})
	}
	return list
}

func TestP11LabelsAreReadBack(t *testing.T) {
	d := dice(11)
	for range 5000 {
		list := someLabels(&d)
		var parts []string
		for _, l := range list {
			parts = append(parts, fmt.Sprintf("%s=%s", l.Name, l.Word))
		}
		want := "{" + strings.Join(parts, ",") + "}"
		if !impl.LabelsOk(list) || impl.LabelsPut(list) != want {
			t.Fatalf("LabelsPut(%v) is %q, not %q", list, impl.LabelsPut(list), want)
		}
		if back, ok := impl.LabelsGet(want); !ok || !slices.Equal(back, list) {
			t.Fatalf("LabelsGet(%q) is %v, %v", want, back, ok)
		}
		checkLabelsGet(t, turned(&d, want, "{}=,abz "))
	}
}

func TestP11AllShortTexts(t *testing.T) {
	read := 0
	for size := range 8 {
		eachText("{}=,ab", size, func(text string) {
			if checkLabelsGet(t, text) {
				read++
			}
		})
	}
	// A name and a word, of two to four letters in all.
	if want := 1*4 + 2*8 + 3*16; read != want {
		t.Errorf("%d texts are read, not %d", read, want)
	}
}

// goodLabels are ok, wrongLabels are not: each wrong in one way alone.
var goodLabels = map[string]labels{
	"{a=x}":             labelsOf("a", "x"),
	"{abcdef=x}":        labelsOf("abcdef", "x"),
	"{a=abcdefgh}":      labelsOf("a", "abcdefgh"),
	"{a=a,az=z,z=a}":    labelsOf("a", "a", "az", "z", "z", "a"),
	"{a=x,b=x,c=x,d=x}": labelsOf("a", "x", "b", "x", "c", "x", "d", "x"),
	"{a=x,aa=x,ab=x}":   labelsOf("a", "x", "aa", "x", "ab", "x"),
	"{aaaaaa=aaaaaaaa,bbbbbb=bbbbbbbb,yyyyyy=yyyyyyyy,zzzzzz=zzzzzzzz}": labelsOf("aaaaaa", "aaaaaaaa", "bbbbbb", "bbbbbbbb", "yyyyyy", "yyyyyyyy", "zzzzzz", "zzzzzzzz"),
}

var wrongLabels = map[string]labels{
	"none":                      nil,
	"none, but a list":          {},
	"five":                      labelsOf("a", "x", "b", "x", "c", "x", "d", "x", "e", "x"),
	"a name of seven":           labelsOf("abcdefg", "x"),
	"a name of seven, the last": labelsOf("a", "x", "bcdefgh", "x"),
	"a word of nine":            labelsOf("a", "abcdefghi"),
	"an empty name":             labelsOf("", "x"),
	"an empty word":             labelsOf("a", ""),
	"an empty word behind":      labelsOf("a", "x", "b", ""),
	"a name twice":              labelsOf("a", "x", "a", "y"),
	"a label twice":             labelsOf("a", "x", "a", "x"),
	"out of order":              labelsOf("b", "x", "a", "x"),
	"the longer name ahead":     labelsOf("ab", "x", "a", "x"),
	"the last two":              labelsOf("a", "x", "c", "x", "b", "x"),
	"a great letter":            labelsOf("A", "x"),
	"a great letter in a word":  labelsOf("a", "xY"),
	"ahead of a":                labelsOf("`", "x"),
	"behind z":                  labelsOf("{", "x"),
	"ahead of a in a word":      labelsOf("a", "x`"),
	"behind z in a word":        labelsOf("a", "{x"),
	"a figure":                  labelsOf("a", "1"),
	"a blank":                   labelsOf("a", "x y"),
	"a nought":                  labelsOf("a\x00", "x"),
	"a letter of two bytes":     labelsOf("é", "x"),
	"a byte that is no letter":  labelsOf("a", "\xff"),
	"a comma":                   labelsOf("a", "x,b"),
	"a sign":                    labelsOf("a", "x=y"),
	"a bracket":                 labelsOf("a", "x}"),
}

func TestP11Limits(t *testing.T) {
	for text, list := range goodLabels {
		if !impl.LabelsOk(list) || impl.LabelsPut(list) != text || !checkLabelsGet(t, text) {
			t.Errorf("%s: LabelsOk is %v, LabelsPut is %q", text, impl.LabelsOk(list), impl.LabelsPut(list))
		}
	}
	for what, list := range wrongLabels {
		if impl.LabelsOk(list) || impl.LabelsPut(list) != "" {
			t.Errorf("%s: LabelsOk is %v, LabelsPut is %q", what, impl.LabelsOk(list), impl.LabelsPut(list))
		}
	}
}

func TestP11TextsThatAreNone(t *testing.T) {
	for _, text := range []string{
		"", "{", "}", "{}", "{{}}", "a=x", "{a=x", "a=x}", "{a=x}}", "{{a=x}", "{{a=x}}", "[a=x]", "(a=x)", "{a=x]", "{a=x}\n", " {a=x}", "{a=x} ", "{a=x}{b=x}",
		"{a}", "{a=}", "{=x}", "{=}", "{a==x}", "{a=x=}", "{a=x=y}", "{a!x}", "{a^x}", "{a~x}", "{a:x}", "{a x}", "{ax}",
		"{,}", "{a=x,}", "{,a=x}", "{a=x,,b=x}", "{a=x;b=x}", "{a=x, b=x}", "{a=x b=x}", "{a=x,b}", "{a=x,b=}", "{a=x,=x}",
		"{b=x,a=x}", "{a=x,a=x}", "{a=x,a=y}", "{ab=x,a=x}", "{a=x,b=x,c=x,d=x,e=x}", "{a=x,b=x,c=x,d=x,}",
		"{abcdefg=x}", "{a=abcdefghi}", "{A=x}", "{a=X}", "{a=1}", "{1=x}", "{a=é}", "{é=x}", "{a=\xff}", "{a=x\x00}", "{a=\"x\"}", strings.Repeat("{a=x}", 1000), "{" + strings.Repeat(",", 10000) + "}",
	} {
		if got, ok := impl.LabelsGet(text); ok || got != nil {
			t.Errorf("LabelsGet(%q) is %v, %v", text, got, ok)
		}
		checkLabelsGet(t, text)
	}
}

// fewLabels is all labels with some of three names, one the beginning of another, and words likewise.
func fewLabels() []labels {
	var out []labels
	words := []string{"", "a", "ab", "b"}
	for _, x := range words {
		for _, y := range words {
			for _, z := range words {
				var list labels
				for i, word := range []string{x, y, z} {
					if word != "" {
						list = append(list, impl.Label{Name: []string{"a", "ab", "b"}[i], Word: word})
					}
				}
				if list != nil {
					out = append(out, list)
				}
			}
		}
	}
	return out
}

// orderKey is ordered as labels are: what ends comes ahead of all letters.
func orderKey(list labels) string {
	key := ""
	for _, l := range list {
		key += l.Name + "\x00" + l.Word + "\x00"
	}
	return key
}

func TestP12LabelsStandAheadOrBehind(t *testing.T) {
	all := fewLabels()
	for _, a := range all {
		for _, b := range all {
			got := impl.LabelsCmp(a, b)
			if want := strings.Compare(orderKey(a), orderKey(b)); got != want {
				t.Fatalf("LabelsCmp(%v, %v) is %d, not %d", a, b, got, want)
			}
			if impl.LabelsCmp(b, a) != -got || (got == 0) != slices.Equal(a, b) {
				t.Fatalf("LabelsCmp(%v, %v) is %d, the other way round %d", a, b, got, impl.LabelsCmp(b, a))
			}
			for _, c := range all {
				if got <= 0 && impl.LabelsCmp(b, c) < 0 && impl.LabelsCmp(a, c) != -1 {
					t.Fatalf("%v, %v and %v do not go on", a, b, c)
				}
			}
		}
	}
	d := dice(12)
	for range 3000 {
		a, b := someLabels(&d), someLabels(&d)
		if got, want := impl.LabelsCmp(a, b), strings.Compare(orderKey(a), orderKey(b)); got != want {
			t.Fatalf("LabelsCmp(%v, %v) is %d, not %d", a, b, got, want)
		}
	}
}

func TestP12ByNameThenWordThenHowMany(t *testing.T) {
	rise := []labels{
		labelsOf("a", "x"),
		labelsOf("a", "x", "b", "a"),
		labelsOf("a", "x", "b", "a", "c", "a"),
		labelsOf("a", "x", "b", "a", "c", "a", "d", "a"),
		labelsOf("a", "x", "b", "z"),
		labelsOf("a", "x", "ba", "a"),
		labelsOf("a", "xa"),
		labelsOf("a", "xa", "b", "a"),
		labelsOf("a", "y"),
		labelsOf("aa", "a"),
		labelsOf("ab", "a"),
		labelsOf("b", "a"),
	}
	for i, a := range rise {
		for j, b := range rise {
			want := 0
			if i < j {
				want = -1
			} else if i > j {
				want = 1
			}
			if got := impl.LabelsCmp(a, b); got != want {
				t.Errorf("LabelsCmp(%v, %v) is %d, not %d", a, b, got, want)
			}
		}
	}
}

func TestP12LabelsThatAreNotOk(t *testing.T) {
	for _, good := range goodLabels {
		for what, wrong := range wrongLabels {
			if impl.LabelsCmp(good, wrong) != 0 || impl.LabelsCmp(wrong, good) != 0 || impl.LabelsCmp(wrong, wrong) != 0 {
				t.Errorf("%s, and %v", what, good)
			}
		}
	}
}

func TestP13MatchesAreReadBack(t *testing.T) {
	d := dice(13)
	for range 5000 {
		list := someMatches(&d)
		var parts []string
		for _, m := range list {
			parts = append(parts, m.Name+" =!^~"[m.Kind:m.Kind+1]+m.Word)
		}
		want := "[" + strings.Join(parts, ",") + "]"
		if !impl.MatchesOk(list) || impl.MatchesPut(list) != want {
			t.Fatalf("MatchesPut(%v) is %q, not %q", list, impl.MatchesPut(list), want)
		}
		if back, ok := impl.MatchesGet(want); !ok || !slices.Equal(back, list) {
			t.Fatalf("MatchesGet(%q) is %v, %v", want, back, ok)
		}
		checkMatchesGet(t, turned(&d, want, "[]=!^~,abz "))
	}
}

func TestP13AllShortTexts(t *testing.T) {
	read := 0
	for size := range 7 {
		eachText("[]=!^~,ab", size, func(text string) {
			if checkMatchesGet(t, text) {
				read++
			}
		})
	}
	// No match, or one of a sign and one to three letters, of which some are the name.
	if want := 1 + 4*(1*2+2*4+3*8); read != want {
		t.Errorf("%d texts are read, not %d", read, want)
	}
}

// wrongMatches are not ok, each wrong in one way alone.
var wrongMatches = map[string]matches{
	"five":                     slices.Repeat(matches{{Kind: 1, Name: "a", Word: "x"}}, 5),
	"kind 0":                   {{Kind: 0, Name: "a", Word: "x"}},
	"kind 5":                   {{Kind: 5, Name: "a", Word: "x"}},
	"kind -1":                  {{Kind: -1, Name: "a", Word: "x"}},
	"kind 257":                 {{Kind: 257, Name: "a", Word: "x"}},
	"the second of no kind":    {{Kind: 1, Name: "a", Word: "x"}, {Name: "a", Word: "x"}},
	"an empty name":            {{Kind: 1, Name: "", Word: "x"}},
	"an empty name and word":   {{Kind: 3}},
	"a name of seven":          {{Kind: 2, Name: "abcdefg", Word: "x"}},
	"a word of nine":           {{Kind: 3, Name: "a", Word: "abcdefghi"}},
	"a great letter":           {{Kind: 4, Name: "A", Word: "x"}},
	"a great letter in a word": {{Kind: 1, Name: "a", Word: "X"}},
	"a figure":                 {{Kind: 1, Name: "a", Word: "1"}},
	"a sign":                   {{Kind: 1, Name: "a", Word: "=x"}},
	"a comma":                  {{Kind: 1, Name: "a", Word: ",b"}},
	"a bracket":                {{Kind: 1, Name: "a", Word: "]"}},
	"ahead of a":               {{Kind: 1, Name: "a", Word: "`"}},
	"behind z":                 {{Kind: 1, Name: "{", Word: "a"}},
	"a byte that is no letter": {{Kind: 1, Name: "a", Word: "\xff"}},
}

var goodMatches = map[string]matches{
	"[]":                nil,
	"[a=]":              {{Kind: 1, Name: "a"}},
	"[a!]":              {{Kind: 2, Name: "a"}},
	"[a^]":              {{Kind: 3, Name: "a"}},
	"[a~]":              {{Kind: 4, Name: "a"}},
	"[abcdef=abcdefgh]": {{Kind: 1, Name: "abcdef", Word: "abcdefgh"}},
	"[b=x,a=x]":         {{Kind: 1, Name: "b", Word: "x"}, {Kind: 1, Name: "a", Word: "x"}},
	"[a=x,a=x]":         {{Kind: 1, Name: "a", Word: "x"}, {Kind: 1, Name: "a", Word: "x"}},
	"[a=x,a!x,a^x,a~x]": {{Kind: 1, Name: "a", Word: "x"}, {Kind: 2, Name: "a", Word: "x"}, {Kind: 3, Name: "a", Word: "x"}, {Kind: 4, Name: "a", Word: "x"}},
}

func TestP13Limits(t *testing.T) {
	if impl.MatchIs != 1 || impl.MatchNot != 2 || impl.MatchBegin != 3 || impl.MatchNever != 4 {
		t.Error("kinds of matches")
	}
	for text, list := range goodMatches {
		if !impl.MatchesOk(list) || impl.MatchesPut(list) != text || !checkMatchesGet(t, text) {
			t.Errorf("%s: MatchesOk is %v, MatchesPut is %q", text, impl.MatchesOk(list), impl.MatchesPut(list))
		}
	}
	if impl.MatchesPut(matches{}) != "[]" || !impl.MatchesOk(matches{}) {
		t.Error("the empty list is not the nil list")
	}
	if list, ok := impl.MatchesGet("[]"); !ok || list != nil {
		t.Error("no matches are not read as such")
	}
	for what, list := range wrongMatches {
		if impl.MatchesOk(list) || impl.MatchesPut(list) != "" {
			t.Errorf("%s: MatchesOk is %v, MatchesPut is %q", what, impl.MatchesOk(list), impl.MatchesPut(list))
		}
	}
}

func TestP13TextsThatAreNone(t *testing.T) {
	for _, text := range []string{
		"", "[", "]", "a=x", "[a=x", "a=x]", "[a=x]]", "[[a=x]", "[[]]", "{a=x}", "{}", "[a=x}", "[a=x]\n", " [a=x]", "[a=x] ", "[][]", "[ ]",
		"[a]", "[=x]", "[=]", "[~]", "[a==x]", "[a=x=]", "[a!=x]", "[a=!x]", "[a^~x]", "[a:x]", "[a x]", "[a<x]", "[a\x00x]",
		"[,]", "[a=x,]", "[,a=x]", "[a=x,,b=x]", "[a=x;b=x]", "[a=x, b=x]", "[a=x b=x]", "[a=x,b]", "[a=,b=,c=,d=,e=]", "[a=,b=,c=,d=,]",
		"[abcdefg=x]", "[a=abcdefghi]", "[A=x]", "[a=X]", "[a=1]", "[1=x]", "[a=é]", "[é=x]", "[aéx]", "[a\xffx]", "[a=\xff]", "[" + strings.Repeat(",", 10000) + "]",
	} {
		if got, ok := impl.MatchesGet(text); ok || got != nil {
			t.Errorf("MatchesGet(%q) is %v, %v", text, got, ok)
		}
		checkMatchesGet(t, text)
	}
}

// plainLet is what a match says of labels, as the document's words have it.
func plainLet(m impl.Match, list labels) bool {
	word := ""
	for _, l := range list {
		if l.Name == m.Name {
			word = l.Word
		}
	}
	begins := len(word) >= len(m.Word) && word[:len(m.Word)] == m.Word
	return map[int]bool{1: word == m.Word, 2: word != m.Word, 3: begins, 4: !begins}[m.Kind]
}

// fewMatches is one of each kind, name and word out of few; the labels of fewLabels never have the last name.
func fewMatches() matches {
	var out matches
	for kind := 1; kind <= 4; kind++ {
		for _, name := range []string{"a", "ab", "b", "c"} {
			for _, word := range []string{"", "a", "ab", "abc", "b"} {
				out = append(out, impl.Match{Kind: kind, Name: name, Word: word})
			}
		}
	}
	return out
}

func TestP14AllMatchesLetIfEachDoes(t *testing.T) {
	all, rules := fewLabels(), fewMatches()
	for _, list := range all {
		if !impl.MatchesLet(nil, list) || !impl.MatchesLet(matches{}, list) {
			t.Fatalf("no matches do not let %v", list)
		}
		for i, m := range rules {
			got := impl.MatchesLet(matches{m}, list)
			if got != plainLet(m, list) {
				t.Fatalf("%v lets %v: %v", m, list, got)
			}
			opposite := m
			opposite.Kind = []int{0, 2, 1, 4, 3}[m.Kind]
			if impl.MatchesLet(matches{opposite}, list) == got || impl.MatchesLet(matches{m, opposite}, list) {
				t.Fatalf("%v and its opposite both let %v, or neither does", m, list)
			}
			for _, n := range rules[i%7:] {
				if impl.MatchesLet(matches{m, n}, list) != (got && plainLet(n, list)) {
					t.Fatalf("%v and %v let %v: %v", m, n, list, !got)
				}
			}
		}
	}
	d := dice(14)
	for range 20000 {
		rules, list := someMatches(&d), someLabels(&d)
		want := true
		for i := range rules {
			if d.below(2) == 0 {
				l := list[d.below(len(list))]
				rules[i].Name, rules[i].Word = l.Name, l.Word[:d.below(len(l.Word)+1)]
			}
			want = want && plainLet(rules[i], list)
		}
		if got := impl.MatchesLet(rules, list); got != want {
			t.Fatalf("%v let %v: %v", rules, list, got)
		}
	}
}

func TestP14WhatIsNotOkIsNotLet(t *testing.T) {
	for what, wrong := range wrongLabels {
		for _, list := range goodMatches {
			if impl.MatchesLet(list, wrong) {
				t.Errorf("%v let labels: %s", list, what)
			}
		}
	}
	never := impl.Match{Kind: impl.MatchNever, Name: "zz", Word: "q"}
	for what, wrong := range wrongMatches {
		if impl.MatchesLet(wrong, labelsOf("a", "x")) || impl.MatchesLet(append(matches{never}, wrong...), labelsOf("b", "y")) {
			t.Errorf("matches let labels: %s", what)
		}
	}
	four := slices.Repeat(matches{{Kind: impl.MatchIs, Name: "a", Word: "x"}}, impl.MatchMax)
	if !impl.MatchesLet(four, labelsOf("a", "x")) {
		t.Error("four do not let")
	}
}

func TestP15WordsBeginWithTheirBeginnings(t *testing.T) {
	d := dice(15)
	let := func(kind int, name, word string, list labels) bool {
		return impl.MatchesLet(matches{{Kind: kind, Name: name, Word: word}}, list)
	}
	for range 3000 {
		list := someLabels(&d)
		for _, l := range list {
			if !let(impl.MatchIs, l.Name, l.Word, list) || let(impl.MatchNot, l.Name, l.Word, list) {
				t.Fatalf("%v is not the word of %v", l, list)
			}
			for end := range len(l.Word) + 1 {
				if !let(impl.MatchBegin, l.Name, l.Word[:end], list) || let(impl.MatchNever, l.Name, l.Word[:end], list) {
					t.Fatalf("%v does not begin with %q", l, l.Word[:end])
				}
				if end < len(l.Word) && let(impl.MatchIs, l.Name, l.Word[:end], list) {
					t.Fatalf("%v is %q", l, l.Word[:end])
				}
			}
			if len(l.Word) < impl.WordMax && let(impl.MatchBegin, l.Name, l.Word+"a", list) {
				t.Fatalf("%v begins with a longer word", l)
			}
		}
	}
}

func TestP15ANameThatIsNotThere(t *testing.T) {
	list := labelsOf("ab", "x", "b", "x")
	for _, name := range []string{"a", "abc", "c", "x", "aaaaaa"} {
		for word, want := range map[string][4]bool{"": {true, false, true, false}, "x": {false, true, false, true}} {
			for i, let := range want {
				if got := impl.MatchesLet(matches{{Kind: i + 1, Name: name, Word: word}}, list); got != let {
					t.Errorf("kind %d, %q under %q: %v", i+1, word, name, got)
				}
			}
		}
	}
	for word, want := range map[string][4]bool{"": {false, true, true, false}, "x": {true, false, true, false}, "xx": {false, true, false, true}} {
		for i, let := range want {
			if got := impl.MatchesLet(matches{{Kind: i + 1, Name: "b", Word: word}}, list); got != let {
				t.Errorf("kind %d, %q under a name that is there: %v", i+1, word, got)
			}
		}
	}
}

func TestLabelsLeaveTheirArguments(t *testing.T) {
	some := []labels{nil, labelsOf("b", "x", "a", "y")}
	for _, list := range goodLabels {
		some = append(some, list)
	}
	for _, list := range some {
		a, b := roomy(list), roomy(labelsOf("a", "x"))
		m := roomy(matches{{Kind: 1, Name: "a", Word: "x"}, {Kind: 4, Name: "b", Word: ""}})
		h := hand(a, b, m)
		impl.LabelsOk(a)
		impl.LabelsCmp(a, b)
		impl.MatchesOk(m)
		impl.MatchesLet(m, a)
		h.check(t, "a call that says yes or no")
		h.check(t, "LabelsPut", impl.LabelsPut(a))
		h.check(t, "MatchesPut", impl.MatchesPut(m))
		text := roomy(impl.LabelsPut(a))
		got, _ := impl.LabelsGet(text)
		hand(text).check(t, "LabelsGet", got)
	}
	text := roomy("[a=x,b^yy,c!,d~zzz]")
	got, _ := impl.MatchesGet(text)
	hand(text).check(t, "MatchesGet", got)
}
