package tests

import (
	"fmt"
	"slices"
	"strings"

	"loop.example/almanack/impl"
)

// This file does what a store does in the plainest way, with plain rows: what the tests hold the program against.

type (
	helds  = []impl.Held
	tombs  = []impl.Tomb
	writes = []impl.Write
)

func sameHeld(a, b impl.Held) bool {
	return a.Id == b.Id && sameBlock(a.Block, b.Block)
}

func sameTomb(a, b impl.Tomb) bool {
	return a.Before == b.Before && slices.Equal(a.List, b.List) && a.From == b.From && a.To == b.To
}

func sameStore(a, b impl.Store) bool {
	return a.Next == b.Next && a.Fresh == b.Fresh && sameTable(a.Head, b.Head) && slices.EqualFunc(a.Held, b.Held, sameHeld) && slices.EqualFunc(a.Tombs, b.Tombs, sameTomb)
}

// newStore is what StoreNew must be.
func newStore() impl.Store {
	return impl.Store{Head: impl.Table{High: -1}}
}

func lets(rules matches, text string) bool {
	list, _ := labelsIn(text)
	return len(plainFind([][]impl.Label{list}, rules)) == 1
}

func plainLive(s impl.Store, h impl.Held) plainRows {
	out := plainRows{}
	for text, byTime := range plainOf(h.Block.Rows) {
		var over tombs
		for _, t := range s.Tombs {
			if t.Before > h.Id && lets(t.List, text) {
				over = append(over, t)
			}
		}
		for at, v := range byTime {
			taken := slices.ContainsFunc(over, func(t impl.Tomb) bool { return at >= t.From && at < t.To })
			if at >= s.Head.Floor && !taken {
				out.put(text, at, v)
			}
		}
	}
	return out
}

// putAll says whether no other number is there.
func (p plainRows) putAll(other plainRows) bool {
	fine := true
	for text, byTime := range other {
		for at, v := range byTime {
			fine = p.put(text, at, v) && fine
		}
	}
	return fine
}

func plainAll(s impl.Store) (plainRows, bool) {
	out := plainOf(s.Head.Rows)
	fine := true
	for _, h := range s.Held {
		fine = out.putAll(plainLive(s, h)) && fine
	}
	return out, fine && out.fits()
}

// tableOf is the plain table that a store should be.
func tableOf(s impl.Store) impl.Table {
	all, _ := plainAll(s)
	return impl.Table{Rows: all.rows(), High: s.Head.High, Floor: s.Head.Floor}
}

func plainBound(high int) int {
	bound := 0
	for bound+100 <= high-300 {
		bound += 100
	}
	return bound
}

// plainToldOk is all that makes a store ok but for what is in blocks.
func plainToldOk(s impl.Store) bool {
	if s.Next < 0 || s.Next > 9999 || s.Fresh < 0 || s.Fresh > 9999 || !impl.TableOk(s.Head) {
		return false
	}
	if len(s.Held) > 60 || len(s.Tombs) > 6 {
		return false
	}
	least, end := 10000, 0
	ids := map[int]bool{}
	for _, h := range s.Held {
		if !slices.Contains(ranges(), [2]int{h.Block.Low, h.Block.High}) || h.Block.Low < end {
			return false
		}
		if h.Block.High <= s.Head.Floor || h.Block.High > plainBound(s.Head.High) {
			return false
		}
		if h.Id < 0 || h.Id >= s.Fresh || ids[h.Id] {
			return false
		}
		ids[h.Id] = true
		least, end = min(least, h.Id), h.Block.High
	}
	for _, row := range s.Head.Rows {
		if row.List[0].T < end {
			return false
		}
	}
	for _, t := range s.Tombs {
		if t.Before < 1 || t.Before > s.Fresh || t.Before <= least || !impl.MatchesOk(t.List) {
			return false
		}
		if t.From < 0 || t.From > 9999 || t.To < t.From || t.To > 10000 {
			return false
		}
	}
	return true
}

func plainStoreOk(s impl.Store) bool {
	if !plainToldOk(s) {
		return false
	}
	for _, h := range s.Held {
		if !impl.BlockOk(h.Block) {
			return false
		}
	}
	_, fine := plainAll(s)
	return fine
}

// listText is what StoreList must write.
func listText(s impl.Store) string {
	var out strings.Builder
	fmt.Fprintf(&out, "list %d %d %d %d\n", s.Next, s.Fresh, s.Head.High+1, s.Head.Floor)
	for _, h := range s.Held {
		fmt.Fprintf(&out, "b %d %d %d\n", h.Id, h.Block.Low, h.Block.High)
	}
	for _, t := range s.Tombs {
		fmt.Fprintf(&out, "t %d %s %d %d\n", t.Before, matchesText(t.List), t.From, t.To)
	}
	return summed(out.String() + linesOf(s.Head.Rows, impl.PieceMax))
}

func logWrite(num int, r impl.Rec) impl.Write {
	return impl.Write{Kind: 1, Text: logLine(num, recText(r))}
}

// wantAdd is what StoreAdd must be, of a store that is ok.
func wantAdd(s impl.Store, batch entries) (impl.Store, writes, int) {
	p := plainTableOf(tableOf(s))
	if code := p.writeAll(batch); code != 0 {
		return s, nil, code
	}
	if s.Next == 9999 {
		return s, nil, 4
	}
	out := roomy(s)
	head := plainOf(s.Head.Rows)
	for _, e := range batch {
		head.put(labelsText(e.Labels), e.T, e.V)
	}
	out.Head = impl.Table{Rows: head.rows(), High: p.high, Floor: s.Head.Floor}
	out.Next++
	return out, writes{logWrite(s.Next, impl.Rec{Kind: 1, Batch: batch})}, 0
}

// plainDrop is what a drop does, its number aside.
func plainDrop(s impl.Store, rules matches, from, to int) impl.Store {
	out := roomy(s)
	_, out.Head.Rows = plainOf(s.Head.Rows).split(rules, from, to)
	if len(s.Held) > 0 {
		out.Tombs = append(slices.Clone(s.Tombs), impl.Tomb{Before: s.Fresh, List: rules, From: from, To: to})
	}
	return out
}

// wantDrop is what StoreDrop must be, of a store that is ok.
func wantDrop(s impl.Store, rules matches, from, to int) (impl.Store, writes, int) {
	if !impl.MatchesOk(rules) || from < 0 || from > 9999 || to < from || to > 10000 {
		return s, nil, 1
	}
	if s.Next == 9999 || len(s.Tombs) == 6 {
		return s, nil, 4
	}
	out := plainDrop(s, rules, from, to)
	out.Next++
	return out, writes{logWrite(s.Next, impl.Rec{Kind: 2, List: rules, From: from, To: to})}, 0
}

// withoutIdle is a store without Tombs that have no block with a lesser number.
func withoutIdle(s impl.Store) impl.Store {
	var left tombs
	for _, t := range s.Tombs {
		idle := true
		for _, h := range s.Held {
			idle = idle && h.Id >= t.Before
		}
		if !idle {
			left = append(left, t)
		}
	}
	s.Tombs = left
	return s
}

// plainKeep is what a keep does, its number aside, and the blocks that go.
func plainKeep(s impl.Store, floor int) (impl.Store, writes) {
	out := roomy(s)
	_, out.Head.Rows = plainOf(s.Head.Rows).split(nil, 0, floor)
	out.Head.Floor = floor
	out.Held = nil
	var gone writes
	for _, h := range s.Held {
		if h.Block.High > floor {
			out.Held = append(out.Held, h)
		} else {
			gone = append(gone, impl.Write{Kind: 5, Id: h.Id})
		}
	}
	return withoutIdle(out), gone
}

// wantKeep is what StoreKeep must be, of a store that is ok.
func wantKeep(s impl.Store, age int) (impl.Store, writes, int) {
	if age < 0 {
		return s, nil, 1
	}
	floor := s.Head.Floor
	for floor+100 <= s.Head.High-age {
		floor += 100
	}
	if floor == s.Head.Floor {
		return s, nil, 0
	}
	if s.Next == 9999 {
		return s, nil, 4
	}
	out, gone := plainKeep(s, floor)
	out.Next++
	return out, append(writes{logWrite(s.Next, impl.Rec{Kind: 3, From: floor})}, gone...), 0
}

// joinRange puts one block in the place of several in a range.
func joinRange(s impl.Store, low, high int) impl.Store {
	var ahead, in, behind helds
	for _, h := range s.Held {
		switch {
		case h.Block.Low >= low && h.Block.High <= high:
			in = append(in, h)
		case h.Block.Low < low:
			ahead = append(ahead, h)
		default:
			behind = append(behind, h)
		}
	}
	if len(in) < 2 {
		return s
	}
	all := plainRows{}
	for _, h := range in {
		all.putAll(plainLive(s, h))
	}
	if len(all) > 0 {
		ahead = append(ahead, impl.Held{Id: s.Fresh, Block: impl.Block{Low: low, High: high, Rows: all.rows()}})
		s.Fresh++
	}
	s.Held = append(ahead, behind...)
	return s
}

func idsOf(s impl.Store) []int {
	var out []int
	for _, h := range s.Held {
		out = append(out, h.Id)
	}
	return out
}

// wantPack is what StorePack must be, of a store that is ok.
func wantPack(s impl.Store) (impl.Store, writes) {
	if s.Fresh > 9999-240 {
		return s, nil
	}
	out := roomy(s)
	bound := plainBound(s.Head.High)
	for low := 0; low < bound; low += 100 {
		if in, _ := plainOf(s.Head.Rows).split(nil, low, low+100); len(in) > 0 {
			out.Held = append(out.Held, impl.Held{Id: out.Fresh, Block: impl.Block{Low: low, High: low + 100, Rows: in}})
			out.Fresh++
		}
	}
	_, out.Head.Rows = plainOf(s.Head.Rows).split(nil, 0, bound)
	for _, wide := range []int{300, 900} {
		for low := 0; low+wide <= bound; low += wide {
			out = joinRange(out, low, low+wide)
		}
	}
	out = withoutIdle(out)
	var list, gone writes
	for _, h := range out.Held {
		if !slices.Contains(idsOf(s), h.Id) {
			list = append(list, impl.Write{Kind: 2, Id: h.Id, Text: blockText(h.Block)})
		}
	}
	for _, h := range s.Held {
		if !slices.Contains(idsOf(out), h.Id) {
			gone = append(gone, impl.Write{Kind: 5, Id: h.Id})
		}
	}
	list = append(list, impl.Write{Kind: 3, Text: listText(out)}, impl.Write{Kind: 4})
	return out, append(list, gone...)
}

// held makes a block of one row under a number.
func held(id, low, high int, times ...int) impl.Held {
	return impl.Held{Id: id, Block: block(low, high, times...)}
}

// tomb makes one of matches' text.
func tomb(before int, rules string, from, to int) impl.Tomb {
	list, _ := matchesIn(rules)
	return impl.Tomb{Before: before, List: list, From: from, To: to}
}

// storeShort tells blocks and what is left in Head, by times.
func storeShort(s impl.Store) string {
	var out strings.Builder
	for _, h := range s.Held {
		fmt.Fprintf(&out, "%d:%d-%d%s ", h.Id, h.Block.Low, h.Block.High, rowsShort(h.Block.Rows))
	}
	for _, t := range s.Tombs {
		fmt.Fprintf(&out, "t%d%s%d-%d ", t.Before, matchesText(t.List), t.From, t.To)
	}
	return out.String() + "head" + rowsShort(s.Head.Rows)
}
