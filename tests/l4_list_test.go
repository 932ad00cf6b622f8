package tests

import (
	"fmt"
	"math"
	"slices"
	"testing"

	"loop.example/almanack/impl"
)

// listOf is the numbers whose bits are set.
func listOf(set int) []int {
	var list []int
	for n := 0; set>>n > 0; n++ {
		if set>>n&1 == 1 {
			list = append(list, n)
		}
	}
	return list
}

// upTo is n numbers, step apart.
func upTo(first, n, step int) []int {
	var list []int
	for i := range n {
		list = append(list, first+i*step)
	}
	return list
}

func someList(d *dice) []int {
	var list []int
	at, most := d.below(3), 1+d.below(5)
	for range d.below(impl.ListMax + 1) {
		list = append(list, at)
		at += 1 + d.below(most)
	}
	return list
}

// eitherOf is all of both, found without going along them.
func eitherOf(a, b []int) []int {
	all := slices.Concat(a, b)
	slices.Sort(all)
	return slices.Compact(all)
}

// within is numbers of a list that another one has, or has not.
func within(list, other []int, has bool) []int {
	var out []int
	for _, n := range list {
		if slices.Contains(other, n) == has {
			out = append(out, n)
		}
	}
	return out
}

func checkLists(t *testing.T, a, b []int) {
	t.Helper()
	both, either, less := impl.ListBoth(a, b), impl.ListEither(a, b), impl.ListLess(a, b)
	if !slices.Equal(both, within(a, b, true)) || !slices.Equal(both, impl.ListBoth(b, a)) {
		t.Fatalf("ListBoth(%v, %v) is %v", a, b, both)
	}
	if !slices.Equal(either, eitherOf(a, b)) || !slices.Equal(either, impl.ListEither(b, a)) {
		t.Fatalf("ListEither(%v, %v) is %v", a, b, either)
	}
	if !slices.Equal(less, within(a, b, false)) {
		t.Fatalf("ListLess(%v, %v) is %v", a, b, less)
	}
	if len(either) != len(a)+len(b)-len(both) {
		t.Fatalf("ListEither(%v, %v) has %d numbers, ListBoth %d", a, b, len(either), len(both))
	}
	if !slices.Equal(eitherOf(less, both), a) && len(a) > 0 || within(less, b, true) != nil {
		t.Fatalf("ListLess(%v, %v) is %v, and ListBoth %v", a, b, less, both)
	}
}

func TestP16P17P18AllSmallLists(t *testing.T) {
	for a := range 1 << 6 {
		for b := range 1 << 6 {
			checkLists(t, listOf(a), listOf(b))
		}
	}
}

func TestP16P17P18ManyLists(t *testing.T) {
	d := dice(16)
	for range 3000 {
		checkLists(t, someList(&d), someList(&d))
	}
}

func TestP16P17P18Limits(t *testing.T) {
	full := [][]int{upTo(0, 40, 1), upTo(0, 40, 2), upTo(1, 40, 2), upTo(40, 40, 1), upTo(math.MaxInt-39, 40, 1), {0}, {math.MaxInt}, {0, math.MaxInt}, {}, nil}
	for _, a := range full {
		if !impl.ListOk(a) {
			t.Errorf("ListOk(%v) is false", a)
		}
		for _, b := range full {
			checkLists(t, a, b)
		}
	}
	if got := impl.ListEither(upTo(0, 40, 2), upTo(1, 40, 2)); len(got) != 80 {
		t.Errorf("of forty and forty %d numbers are in either", len(got))
	}
	for _, a := range [][]int{nil, {}} {
		if impl.ListBoth(a, a) != nil || impl.ListEither(a, a) != nil || impl.ListLess(a, a) != nil {
			t.Error("of nothing there is something")
		}
	}
}

var wrongLists = map[string][]int{
	"41 numbers":             upTo(0, 41, 1),
	"below 0":                {-1},
	"below 0 ahead":          {-1, 0, 1},
	"far below 0":            {math.MinInt, 5},
	"twice":                  {1, 1},
	"twice at the end":       {1, 2, 3, 3},
	"twice ahead":            {0, 0, 1},
	"descending":             {2, 1},
	"descending at the end":  {1, 5, 4},
	"descending, but not by": {1, 3, 2, 4},
}

func TestP16P17P18WrongLists(t *testing.T) {
	for what, wrong := range wrongLists {
		if impl.ListOk(wrong) {
			t.Errorf("%s: ListOk", what)
		}
		for _, good := range [][]int{nil, {0}, {1, 2, 3}, upTo(0, 40, 1)} {
			for _, pair := range [][2][]int{{good, wrong}, {wrong, good}, {wrong, wrong}} {
				a, b := pair[0], pair[1]
				if impl.ListBoth(a, b) != nil || impl.ListEither(a, b) != nil || impl.ListLess(a, b) != nil {
					t.Errorf("%s: of %v and %v there is something", what, a, b)
				}
			}
		}
	}
}

// someAll makes labels of few names and words, so that many have the same.
func someAll(d *dice, n int) [][]impl.Label {
	few := fewLabels()
	var all [][]impl.Label
	for range n {
		if d.below(4) == 0 {
			all = append(all, someLabels(d))
		} else {
			all = append(all, few[d.below(len(few))])
		}
	}
	return all
}

func someRules(d *dice, most int) matches {
	few := fewMatches()
	var list matches
	for range d.below(most + 1) {
		list = append(list, few[d.below(len(few))])
	}
	return list
}

func samePosts(a, b []impl.Post) bool {
	return slices.EqualFunc(a, b, func(x, y impl.Post) bool {
		return x.Name == y.Name && x.Word == y.Word && slices.Equal(x.List, y.List)
	})
}

// plainIndex tries all names and words, in their order.
func plainIndex(all [][]impl.Label) []impl.Post {
	var keys []string
	places := map[string][]int{}
	labelOf := map[string]impl.Label{}
	for at, list := range all {
		for _, l := range list {
			key := orderKey(labels{l})
			if places[key] == nil {
				keys = append(keys, key)
			}
			places[key], labelOf[key] = append(places[key], at), l
		}
	}
	slices.Sort(keys)
	var out []impl.Post
	for _, key := range keys {
		out = append(out, impl.Post{Name: labelOf[key].Name, Word: labelOf[key].Word, List: places[key]})
	}
	return out
}

func plainFind(all [][]impl.Label, rules matches) []int {
	var out []int
	for at, list := range all {
		if !slices.ContainsFunc(rules, func(m impl.Match) bool { return !plainLet(m, list) }) {
			out = append(out, at)
		}
	}
	return out
}

func TestP19TheIndexHasAll(t *testing.T) {
	d := dice(19)
	for range 600 {
		all := someAll(&d, d.below(impl.ListMax+1))
		got := impl.Index(all)
		if !samePosts(got, plainIndex(all)) {
			t.Fatalf("Index(%v) is %v", all, got)
		}
		sum := 0
		for _, p := range got {
			sum += len(p.List)
			if !impl.ListOk(p.List) || !slices.Equal(p.List, impl.IndexFind(all, matches{{Kind: impl.MatchIs, Name: p.Name, Word: p.Word}})) {
				t.Fatalf("%v is not what IndexFind finds in %v", p, all)
			}
		}
		for _, list := range all {
			sum -= len(list)
		}
		if sum != 0 {
			t.Fatalf("Index(%v) has %d places too many", all, sum)
		}
	}
}

func TestP19ByNameAndThenWord(t *testing.T) {
	all := [][]impl.Label{
		labelsOf("b", "a"),
		labelsOf("a", "xy", "b", "b"),
		labelsOf("ab", "a"),
		labelsOf("a", "x"),
		labelsOf("a", "xy", "ab", "a", "b", "a"),
		labelsOf("a", "x"),
	}
	want := "[{a x [3 5]} {a xy [1 4]} {ab a [2 4]} {b a [0 4]} {b b [1]}]"
	if got := fmt.Sprint(impl.Index(all)); got != want {
		t.Errorf("%s, not %s", got, want)
	}
}

func checkFind(t *testing.T, all [][]impl.Label, rules matches) []int {
	t.Helper()
	got := impl.IndexFind(all, rules)
	if !slices.Equal(got, plainFind(all, rules)) {
		t.Fatalf("IndexFind(%v, %v) is %v", all, rules, got)
	}
	left := upTo(0, len(all), 1)
	for _, m := range rules {
		left = impl.ListBoth(left, impl.IndexFind(all, matches{m}))
	}
	if !slices.Equal(got, left) {
		t.Fatalf("IndexFind(%v, %v) is %v, but %v of each", all, rules, got, left)
	}
	for at, list := range all {
		if impl.MatchesLet(rules, list) != slices.Contains(got, at) {
			t.Fatalf("IndexFind(%v, %v) is %v, against MatchesLet at %d", all, rules, got, at)
		}
	}
	return got
}

func TestP20WhatMatchesFind(t *testing.T) {
	d := dice(20)
	for range 1500 {
		checkFind(t, someAll(&d, d.below(impl.ListMax+1)), someRules(&d, impl.MatchMax))
	}
	all := someAll(&d, impl.ListMax)
	for _, none := range []matches{nil, {}} {
		if got := checkFind(t, all, none); len(got) != impl.ListMax {
			t.Errorf("no matches find %v", got)
		}
	}
}

func TestP21WordsOfWhatIsFound(t *testing.T) {
	d := dice(21)
	for range 1500 {
		all, rules := someAll(&d, d.below(impl.ListMax+1)), someRules(&d, 2)
		for _, name := range []string{"a", "ab", "b", "c", "aa", "", "abcdefg", "A", "a=b"} {
			var want []string
			for _, at := range plainFind(all, rules) {
				for _, l := range all[at] {
					if l.Name == name {
						want = append(want, l.Word)
					}
				}
			}
			slices.Sort(want)
			want = slices.Compact(want)
			got := impl.IndexWords(all, name, rules)
			if !slices.Equal(got, want) || got == nil != (len(want) == 0) {
				t.Fatalf("IndexWords(%v, %q, %v) is %q, not %q", all, name, rules, got, want)
			}
		}
	}
}

func TestP21WordsAscend(t *testing.T) {
	all := [][]impl.Label{labelsOf("a", "xy"), labelsOf("a", "b"), labelsOf("a", "x", "b", "q"), labelsOf("a", "xy", "b", "p"), labelsOf("b", "xyz"), labelsOf("aa", "z")}
	cases := []struct {
		name, rules, want string
	}{
		{"a", "[]", "[b x xy]"},
		{"b", "[]", "[p q xyz]"},
		{"a", "[a^x]", "[x xy]"},
		{"a", "[b!]", "[x xy]"},
		{"a", "[b=]", "[b xy]"},
		{"b", "[a=]", "[xyz]"},
		{"b", "[a=b]", "[]"},
		{"c", "[]", "[]"},
		{"", "[]", "[]"},
		{"aa", "[a!]", "[]"},
	}
	for _, c := range cases {
		rules, _ := impl.MatchesGet(c.rules)
		if got := fmt.Sprint(impl.IndexWords(all, c.name, rules)); got != c.want {
			t.Errorf("%s %s: %s, not %s", c.name, c.rules, got, c.want)
		}
	}
}

func TestP19P20P21WhatIsNotOk(t *testing.T) {
	full := slices.Repeat([][]impl.Label{labelsOf("a", "x")}, impl.ListMax)
	if fmt.Sprint(impl.Index(full)) != fmt.Sprintf("[{a x %v}]", upTo(0, 40, 1)) || len(impl.IndexFind(full, nil)) != 40 || len(impl.IndexWords(full, "a", nil)) != 1 {
		t.Error("forty labels are not found")
	}
	wrong := map[string][][]impl.Label{"41 labels": append(full[:40:40], labelsOf("a", "x"))}
	for what, list := range wrongLabels {
		wrong[what+" at the end"] = [][]impl.Label{labelsOf("a", "x"), list}
		wrong[what+" ahead"] = [][]impl.Label{list, labelsOf("a", "x")}
	}
	for what, all := range wrong {
		if impl.Index(all) != nil || impl.IndexFind(all, nil) != nil || impl.IndexWords(all, "a", nil) != nil {
			t.Errorf("%s: there is something", what)
		}
	}
	for what, rules := range wrongMatches {
		if impl.IndexFind(full, rules) != nil || impl.IndexWords(full, "a", rules) != nil {
			t.Errorf("matches, %s: there is something", what)
		}
	}
	for _, all := range [][][]impl.Label{nil, {}} {
		if impl.Index(all) != nil || impl.IndexFind(all, nil) != nil || impl.IndexWords(all, "a", nil) != nil {
			t.Error("of no labels there is something")
		}
	}
}

func TestListsLeaveTheirArguments(t *testing.T) {
	d := dice(4)
	for range 50 {
		a, b := roomy(someList(&d)), roomy(someList(&d))
		h := hand(a, b)
		impl.ListOk(a)
		h.check(t, "ListBoth", impl.ListBoth(a, b))
		h.check(t, "ListEither", impl.ListEither(a, b))
		h.check(t, "ListEither with nothing", impl.ListEither(a, nil))
		h.check(t, "ListLess", impl.ListLess(a, b))
		h.check(t, "ListLess nothing", impl.ListLess(a, nil))
		all, rules := roomy(someAll(&d, d.below(impl.ListMax+1))), roomy(someRules(&d, 1))
		h = hand(all, rules)
		h.check(t, "Index", impl.Index(all))
		h.check(t, "IndexFind", impl.IndexFind(all, rules))
		h.check(t, "IndexWords", impl.IndexWords(all, "a", rules))
	}
}
