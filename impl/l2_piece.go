package impl

import (
	"errors"
	"math/bits"
	"strconv"
)

// Limits of samples.
const (
	TimeMax  = 9999
	ValueMax = 2147483647
	PieceMax = 60
)

// How many bits each part of a piece has.
const (
	countWide = 6
	timeWide  = 14
	valueWide = 31
	leadWide  = 5
	roomWide  = 5
)

// turnWides is in how many bits a step that turned is put, the least that fits first; as many ones stand ahead as its place tells.
var turnWides = [3]int{7, 10, 15}

// How a number differs from the one ahead: not at all, within the frame that was, or in a frame of its own.
const (
	changeNone  = 0
	changeOld   = 1
	changeFresh = 2
)

// Sample is a number at a time.
type Sample struct {
	T int
	V int
}

func sampleOk(x Sample) bool {
	return x.T >= 0 && x.T <= TimeMax && x.V >= 0 && x.V <= ValueMax
}

// SamplesOk says whether samples are ok.
func SamplesOk(list []Sample) bool {
	for i, x := range list {
		if !sampleOk(x) || i > 0 && list[i-1].T >= x.T {
			return false
		}
	}
	return true
}

// frame is the bits of a number that are written: behind lead noughts, wide of them. With wide 0 there was none yet.
type frame struct {
	lead int
	wide int
}

// frameOf is the least frame of a number above 0.
func frameOf(change int) frame {
	lead := valueWide - bits.Len(uint(change))
	return frame{lead: lead, wide: valueWide - lead - bits.TrailingZeros(uint(change))}
}

func (f frame) behind() int {
	return valueWide - f.lead - f.wide
}

func (f frame) holds(change int) bool {
	inside := change >> f.behind()
	return f.wide > 0 && inside < 1<<f.wide && inside<<f.behind() == change
}

type pieceWriter struct {
	frame
	bitWriter
}

// putOnes tells one of several forms: so many ones, and a nought behind them, which the last form can do without.
func (w *pieceWriter) putOnes(ones int, most int) {
	for range ones {
		w.put(1, 1)
	}
	if ones < most {
		w.put(0, 1)
	}
}

func (w *pieceWriter) putTurn(turn int) {
	if turn == 0 {
		w.putOnes(0, len(turnWides))
		return
	}
	for i, wide := range turnWides {
		half := 1 << (wide - 1)
		if turn >= -half && turn < half {
			w.putOnes(i+1, len(turnWides))
			w.put(turn+half, wide)
			return
		}
	}
}

func (w *pieceWriter) putChange(change int) {
	if change == 0 {
		w.putOnes(changeNone, changeFresh)
		return
	}
	if w.holds(change) {
		w.putOnes(changeOld, changeFresh)
	} else {
		w.frame = frameOf(change)
		w.putOnes(changeFresh, changeFresh)
		w.put(w.lead, leadWide)
		w.put(w.wide-1, roomWide)
	}
	w.put(change>>w.behind(), w.wide)
}

// PiecePut is samples as a piece, in bits.
func PiecePut(list []Sample) string {
	if len(list) < 1 || len(list) > PieceMax || !SamplesOk(list) {
		return ""
	}
	var w pieceWriter
	w.put(len(list), countWide)
	w.put(list[0].T, timeWide)
	w.put(list[0].V, valueWide)
	step := 0
	for i := 1; i < len(list); i++ {
		next := list[i].T - list[i-1].T
		w.putTurn(next - step)
		w.putChange(list[i].V ^ list[i-1].V)
		step = next
	}
	return w.text()
}

// brokenPiece is a piece of which no more can be read from a bit on.
type brokenPiece struct {
	at int
}

func (b brokenPiece) Error() string {
	return "the piece breaks off at bit " + strconv.Itoa(b.at)
}

type pieceReader struct {
	frame
	text string
	at   int
}

func (r *pieceReader) take(wide int) (int, error) {
	num, ok := BitsGet(r.text, r.at, wide)
	if !ok {
		return 0, brokenPiece{at: r.at}
	}
	r.at += wide
	return num, nil
}

func (r *pieceReader) takeOnes(most int) (int, error) {
	for ones := range most {
		bit, err := r.take(1)
		if err != nil || bit == 0 {
			return ones, err
		}
	}
	return most, nil
}

func (r *pieceReader) takeTurn() (int, error) {
	ones, err := r.takeOnes(len(turnWides))
	if err != nil || ones == 0 {
		return 0, err
	}
	wide := turnWides[ones-1]
	num, err := r.take(wide)
	return num - 1<<(wide-1), err
}

func (r *pieceReader) takeFrame() error {
	lead, err := r.take(leadWide)
	if err != nil {
		return err
	}
	room, err := r.take(roomWide)
	if err != nil {
		return err
	}
	r.frame = frame{lead: lead, wide: room + 1}
	if r.behind() < 0 {
		return brokenPiece{at: r.at}
	}
	return nil
}

func (r *pieceReader) takeChange() (int, error) {
	ones, err := r.takeOnes(changeFresh)
	if err != nil || ones == changeNone {
		return 0, err
	}
	if ones == changeFresh {
		if err := r.takeFrame(); err != nil {
			return 0, err
		}
	}
	// Of a frame that never was no bits can be taken: that breaks off, too.
	num, err := r.take(r.wide)
	return num << r.behind(), err
}

// takeFirst reads how many samples there are, and the first.
func (r *pieceReader) takeFirst() (int, Sample, error) {
	count, err := r.take(countWide)
	if err != nil {
		return 0, Sample{}, err
	}
	at, err := r.take(timeWide)
	if err != nil {
		return 0, Sample{}, err
	}
	value, err := r.take(valueWide)
	return count, Sample{T: at, V: value}, err
}

func (r *pieceReader) takeAll() ([]Sample, error) {
	count, last, err := r.takeFirst()
	if err != nil {
		return nil, err
	}
	list := []Sample{last}
	step := 0
	for len(list) < count {
		turn, err := r.takeTurn()
		if err != nil {
			return nil, err
		}
		change, err := r.takeChange()
		if err != nil {
			return nil, err
		}
		step += turn
		last = Sample{T: last.T + step, V: last.V ^ change}
		list = append(list, last)
	}
	return list, nil
}

// PieceGet reads a piece.
func PieceGet(text string) ([]Sample, bool) {
	r := pieceReader{text: text}
	list, err := r.takeAll()
	var broken brokenPiece
	if errors.As(err, &broken) {
		return nil, false
	}
	// The same samples can be told in other bits, and what is told need not be ok: only what is put just so is a piece.
	if PiecePut(list) != text {
		return nil, false
	}
	return list, true
}

// SamplesJoin is samples of both; false if they say not the same.
func SamplesJoin(a []Sample, b []Sample) ([]Sample, bool) {
	if !SamplesOk(a) || !SamplesOk(b) {
		return nil, false
	}
	var out []Sample
	i, j := 0, 0
	for i < len(a) && j < len(b) {
		switch {
		case a[i].T < b[j].T:
			out = append(out, a[i])
			i++
		case b[j].T < a[i].T:
			out = append(out, b[j])
			j++
		case a[i].V != b[j].V:
			return nil, false
		default:
			out = append(out, a[i])
			i++
			j++
		}
	}
	out = append(out, a[i:]...)
	return append(out, b[j:]...), true
}

// SamplesCut is samples from a time on, ahead of another one.
func SamplesCut(list []Sample, from int, to int) []Sample {
	if !SamplesOk(list) {
		return nil
	}
	var out []Sample
	for _, x := range list {
		if x.T >= from && x.T < to {
			out = append(out, x)
		}
	}
	return out
}
