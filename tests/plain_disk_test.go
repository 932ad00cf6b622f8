package tests

import (
	"maps"
	"regexp"
	"slices"
	"strconv"
	"strings"

	"loop.example/almanack/impl"
)

// This file does what a disk does in the plainest way, and reads lists by forms: what the tests hold the program against.

type files = []impl.FileText

func sameDisk(a, b impl.Disk) bool {
	return a.Log == b.Log && a.List == b.List && slices.Equal(a.Files, b.Files)
}

func plainDiskOk(d impl.Disk) bool {
	ids := map[int]bool{}
	for _, f := range d.Files {
		if f.Id < 0 || f.Id > 9999 {
			return false
		}
		ids[f.Id] = true
	}
	inOrder := slices.IsSortedFunc(d.Files, func(a, b impl.FileText) int { return a.Id - b.Id })
	return inOrder && len(ids) == len(d.Files) && len(ids) <= 240 && len(d.Log) <= 100000
}

// wantDo is what DiskDo must be.
func wantDo(d impl.Disk, w impl.Write) impl.Disk {
	if !plainDiskOk(d) {
		return impl.Disk{}
	}
	byId := map[int]string{}
	for _, f := range d.Files {
		byId[f.Id] = f.Text
	}
	out := impl.Disk{Log: d.Log, List: d.List}
	switch w.Kind {
	case 1:
		out.Log += w.Text
	case 2:
		byId[w.Id] = w.Text
	case 3:
		out.List = w.Text
	case 4:
		out.Log = ""
	case 5:
		delete(byId, w.Id)
	}
	for _, id := range slices.Sorted(maps.Keys(byId)) {
		out.Files = append(out.Files, impl.FileText{Id: id, Text: byId[id]})
	}
	if !plainDiskOk(out) {
		return d
	}
	return out
}

// wantTorn is what DiskTorn must be.
func wantTorn(d impl.Disk, w impl.Write, bytes int) impl.Disk {
	if !plainDiskOk(d) {
		return impl.Disk{}
	}
	if w.Kind != 1 && w.Kind != 2 || bytes <= 0 {
		return d
	}
	if bytes < len(w.Text) {
		w.Text = w.Text[:bytes]
	}
	return wantDo(d, w)
}

const listNumber = `(0|[1-9][0-9]{0,8})`

var (
	listForm = regexp.MustCompile(`^list ` + listNumber + ` ` + listNumber + ` ` + listNumber + ` ` + listNumber + `\n((?:b [^\n]*\n)*)((?:t [^\n]*\n)*)((?:\{[^\n]*\n)*)sum ([0-9]+)\n$`)
	heldForm = regexp.MustCompile(`^b ` + listNumber + ` ` + listNumber + ` ` + listNumber + `\n$`)
	tombForm = regexp.MustCompile(`^t ` + listNumber + ` (\[[^ \n]*\]) ` + listNumber + ` ` + listNumber + `\n$`)
)

func numsIn(parts []string) []int {
	var out []int
	for _, part := range parts {
		n, _ := strconv.Atoi(part)
		out = append(out, n)
	}
	return out
}

// listIn is the store that a list tells, by forms, and by the plain rules of stores.
func listIn(text string) (impl.Store, bool) {
	if text == "" {
		return newStore(), true
	}
	parts := listForm.FindStringSubmatch(text)
	if parts == nil || summed(text[:strings.LastIndex(text, "sum ")]) != text {
		return impl.Store{}, false
	}
	first := numsIn(parts[1:5])
	s := impl.Store{Next: first[0], Fresh: first[1], Head: impl.Table{High: first[2] - 1, Floor: first[3]}}
	for line := range strings.Lines(parts[5]) {
		words := heldForm.FindStringSubmatch(line)
		if words == nil {
			return impl.Store{}, false
		}
		nums := numsIn(words[1:])
		s.Held = append(s.Held, impl.Held{Id: nums[0], Block: impl.Block{Low: nums[1], High: nums[2]}})
	}
	for line := range strings.Lines(parts[6]) {
		words := tombForm.FindStringSubmatch(line)
		if words == nil {
			return impl.Store{}, false
		}
		list, ok := matchesIn(words[2])
		if !ok {
			return impl.Store{}, false
		}
		nums := numsIn(words[1:])
		s.Tombs = append(s.Tombs, impl.Tomb{Before: nums[0], List: list, From: nums[2], To: nums[3]})
	}
	var ok bool
	s.Head.Rows, ok = impl.RowsGet(parts[7])
	return s, ok && plainToldOk(s)
}

// redone is a store behind a record that is done again; false, if it cannot have been so.
func redone(s impl.Store, r impl.Rec) (impl.Store, bool) {
	switch r.Kind {
	case 1:
		head := plainOf(s.Head.Rows)
		for _, e := range r.Batch {
			if !head.put(labelsText(e.Labels), e.T, e.V) || !head.fits() {
				return s, false
			}
			s.Head.High = max(s.Head.High, e.T)
		}
		s.Head.Rows = head.rows()
	case 2:
		s = plainDrop(s, r.List, r.From, r.To)
	case 3:
		if r.From <= s.Head.Floor {
			return s, false
		}
		s, _ = plainKeep(s, r.From)
	}
	s.Next++
	return s, true
}

// openIn is what DiskOpen must be.
func openIn(d impl.Disk) (impl.Store, bool) {
	s, ok := listIn(d.List)
	if !plainDiskOk(d) || !ok {
		return impl.Store{}, false
	}
	first, list, _ := logIn(d.Log)
	for i, r := range list {
		switch num := first + i; {
		case num > s.Next:
			return impl.Store{}, false
		case num == s.Next:
			if s, ok = redone(s, r); !ok {
				return impl.Store{}, false
			}
		}
	}
	byId := map[int]string{}
	for _, f := range d.Files {
		byId[f.Id] = f.Text
	}
	for i, h := range s.Held {
		b, ok := impl.BlockGet(byId[h.Id])
		if !ok || b.Low != h.Block.Low || b.High != h.Block.High {
			return impl.Store{}, false
		}
		s.Held[i].Block = b
	}
	if !plainStoreOk(s) {
		return impl.Store{}, false
	}
	return s, true
}

// wantMend is what DiskMend must be.
func wantMend(d impl.Disk) (impl.Disk, bool) {
	s, ok := openIn(d)
	if !ok {
		return impl.Disk{}, false
	}
	_, _, bytes := logIn(d.Log)
	out := impl.Disk{Log: d.Log[:bytes], List: d.List}
	for _, f := range d.Files {
		if slices.Contains(idsOf(s), f.Id) {
			out.Files = append(out.Files, f)
		}
	}
	return out, true
}
