package tests

import (
	"fmt"
	"regexp"
	"strconv"
	"strings"

	"loop.example/almanack/impl"
)

// This file does what a world does in the plainest way, by the plain store and the plain disk, and reads lines by forms: what the tests hold the program against.

type events = []impl.Event

func sameWorld(a, b impl.World) bool {
	return sameDisk(a.Disk, b.Disk) && a.Up == b.Up && sameStore(a.Store, b.Store) && sameTable(a.Table, b.Table)
}

// newWorld is what WorldNew must be.
func newWorld() impl.World {
	return impl.World{Up: true, Store: newStore(), Table: impl.Table{High: -1}}
}

func plainWorldOk(w impl.World) bool {
	if !plainDiskOk(w.Disk) || !impl.TableOk(w.Table) {
		return false
	}
	if w.Up {
		return plainStoreOk(w.Store)
	}
	return sameStore(w.Store, impl.Store{})
}

// plainTableKeep is a table behind a keep.
func plainTableKeep(x impl.Table, age int) impl.Table {
	for x.Floor+100 <= x.High-age {
		x.Floor += 100
	}
	_, x.Rows = plainOf(x.Rows).split(nil, 0, x.Floor)
	return x
}

// wantChange is a store, its writes and a table behind an event, if nothing falls; false, if its kind is none of the store's.
func wantChange(w impl.World, e impl.Event) (impl.Store, writes, impl.Table, bool) {
	s, list, code := w.Store, writes(nil), 1
	would := w.Table
	switch e.Kind {
	case 1:
		s, list, code = wantAdd(w.Store, e.Batch)
		if p := plainTableOf(w.Table); p.writeAll(e.Batch) == 0 {
			would = p.table()
		}
	case 2:
		if s, list, code = wantDrop(w.Store, e.List, e.From, e.To); code == 0 {
			_, would.Rows = plainOf(w.Table.Rows).split(e.List, e.From, e.To)
		}
	case 3:
		if s, list, code = wantKeep(w.Store, e.From); code == 0 {
			would = plainTableKeep(w.Table, e.From)
		}
	case 4:
		s, list = wantPack(w.Store)
	default:
		return s, nil, would, false
	}
	if code != 0 {
		would = w.Table
	}
	return s, list, would, true
}

// wantRise is a world that rises; false, if it cannot.
func wantRise(w impl.World, e impl.Event) (impl.World, bool) {
	s, ok := openIn(w.Disk)
	if w.Up || e.Fall || !ok {
		return w, false
	}
	w.Disk, _ = wantMend(w.Disk)
	w.Up, w.Store = true, s
	return w, true
}

// wantWorld is what WorldDo must be.
func wantWorld(w impl.World, e impl.Event) (impl.World, bool) {
	if !plainWorldOk(w) {
		return impl.World{}, false
	}
	if e.Kind == 5 {
		return wantRise(w, e)
	}
	s, list, table, known := wantChange(w, e)
	if !w.Up || !known {
		return w, false
	}
	if !e.Fall {
		out := impl.World{Disk: w.Disk, Up: true, Store: s, Table: table}
		for _, x := range list {
			out.Disk = wantDo(out.Disk, x)
		}
		return out, true
	}
	if e.Step < 0 || e.Step > len(list) {
		return w, false
	}
	out := impl.World{Disk: w.Disk, Table: w.Table}
	for _, x := range list[:e.Step] {
		out.Disk = wantDo(out.Disk, x)
	}
	if e.Step < len(list) {
		out.Disk = wantTorn(out.Disk, list[e.Step], e.Bytes)
	}
	if e.Step > 0 || len(list) > 0 && list[0].Kind == 1 && e.Bytes >= len(list[0].Text) {
		out.Table = table
	}
	return out, true
}

// wantSafe is what WorldSafe must be.
func wantSafe(w impl.World) bool {
	s, ok := openIn(w.Disk)
	if !plainWorldOk(w) || !ok || !sameTable(tableOf(s), w.Table) {
		return false
	}
	return !w.Up || sameTable(tableOf(w.Store), w.Table) && listText(w.Store) == listText(s)
}

var (
	fallForm   = regexp.MustCompile(`^fall ([^ ]*) ([^ ]*) ((?s:.*))$`)
	addForm    = regexp.MustCompile(`^add((?: [^ ]* [^ ]* [^ ]*)*)$`)
	dropForm   = regexp.MustCompile(`^drop ([^ ]*) ([^ ]*) ([^ ]*)$`)
	keepForm   = regexp.MustCompile(`^keep ([^ ]*)$`)
	askForm    = regexp.MustCompile(`^ask ([^ ]*) ([^ ]*) ([^ ]*)$`)
	entryForm  = regexp.MustCompile(` ([^ ]*) ([^ ]*) ([^ ]*)`)
	timeFigure = regexp.MustCompile(`^(0|[1-9][0-9]{0,8})$`)
	vFigure    = regexp.MustCompile(`^(0|[1-9][0-9]{0,9})$`)
)

func figureIn(word string, form *regexp.Regexp) int {
	if !form.MatchString(word) {
		return -1
	}
	n, _ := strconv.Atoi(word)
	return n
}

// eventIn is the event of a line without a fall; false, if there is none. What cannot be has no kind.
func eventIn(line string) (impl.Event, bool) {
	if line == "pack" {
		return impl.Event{Kind: 4}, true
	}
	if line == "rise" {
		return impl.Event{Kind: 5}, true
	}
	if parts := keepForm.FindStringSubmatch(line); parts != nil {
		return impl.Event{Kind: 3, From: figureIn(parts[1], timeFigure)}, true
	}
	if parts := dropForm.FindStringSubmatch(line); parts != nil {
		list, ok := matchesIn(parts[1])
		if !ok {
			return impl.Event{}, true
		}
		return impl.Event{Kind: 2, List: list, From: figureIn(parts[2], timeFigure), To: figureIn(parts[3], timeFigure)}, true
	}
	parts := addForm.FindStringSubmatch(line)
	if parts == nil {
		return impl.Event{}, false
	}
	e := impl.Event{Kind: 1}
	for _, words := range entryForm.FindAllStringSubmatch(parts[1], -1) {
		e.Batch = append(e.Batch, entry(words[1], figureIn(words[2], timeFigure), figureIn(words[3], vFigure)))
	}
	return e, true
}

// answerIn is a world behind a line, and what is answered.
func answerIn(w impl.World, line string) (impl.World, string) {
	if line == "disk" {
		out := fmt.Sprintf("log %d, list %d", len(w.Disk.Log), len(w.Disk.List))
		for _, f := range w.Disk.Files {
			out += fmt.Sprintf(", file %d of %d", f.Id, len(f.Text))
		}
		return w, out + "\n"
	}
	if parts := askForm.FindStringSubmatch(line); parts != nil {
		return w, askIn(w, parts)
	}
	e, ok := eventIn(line)
	if parts := fallForm.FindStringSubmatch(line); parts != nil {
		e, ok = eventIn(parts[3])
		e.Fall, e.Step, e.Bytes = true, figureIn(parts[1], timeFigure), figureIn(parts[2], timeFigure)
	}
	if !ok {
		return w, "what\n"
	}
	next, ok := wantWorld(w, e)
	switch {
	case !ok:
		return w, "no\n"
	case w.Up && next.Up && listText(next.Store) == listText(w.Store):
		return next, "nothing\n"
	}
	return next, "ok\n"
}

func askIn(w impl.World, parts []string) string {
	rules, ok := matchesIn(parts[1])
	if !ok || !w.Up {
		return "no\n"
	}
	all, _ := plainAll(w.Store)
	asked, _ := all.split(rules, figureIn(parts[2], timeFigure), figureIn(parts[3], timeFigure))
	out := ""
	for _, row := range asked {
		out += labelsText(row.Labels)
		for _, x := range row.List {
			out += fmt.Sprintf(" %d:%d", x.T, x.V)
		}
		out += "\n"
	}
	return out + fmt.Sprintf("%d rows\n", len(asked))
}

// wantSession is what Session must be.
func wantSession(lines []string) string {
	var out strings.Builder
	w := newWorld()
	for i, line := range lines {
		if i == 60 {
			break
		}
		var told string
		w, told = answerIn(w, line)
		out.WriteString(told)
	}
	return out.String()
}
