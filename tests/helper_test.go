package tests

import (
	"fmt"
	"iter"
	"maps"
	"math"
	"slices"
	"strings"
	"testing"
	"unsafe"

	"loop.example/almanack/impl"
)

// dice makes numbers that are the same at every run.
type dice uint64

func (d *dice) below(n int) int {
	*d = *d*6364136223846793005 + 1442695040888963407
	return int(uint64(*d)>>33) % n
}

func (d *dice) text(size int) string {
	out := make([]byte, size)
	for i := range out {
		out[i] = byte(d.below(256))
	}
	return string(out)
}

// packed turns figures 0 and 1 into bytes, filled up with noughts; blanks are passed over.
func packed(bits string) string {
	bits = strings.ReplaceAll(bits, " ", "")
	for len(bits)%8 != 0 {
		bits += "0"
	}
	var out []byte
	for i := 0; i < len(bits); i += 8 {
		b := 0
		for _, c := range bits[i : i+8] {
			b = b*2 + int(c-'0')
		}
		out = append(out, byte(b))
	}
	return string(out)
}

// figures is the other way round.
func figures(text string) string {
	var out strings.Builder
	for i := range len(text) {
		fmt.Fprintf(&out, "%08b", text[i])
	}
	return out.String()
}

// binary is a number in so many figures 0 and 1.
func binary(num, wide int) string {
	return fmt.Sprintf("%0*b", wide, num)
}

func sameSamples(a, b []impl.Sample) bool {
	if len(a) != len(b) {
		return false
	}
	for i := range a {
		if a[i] != b[i] {
			return false
		}
	}
	return true
}

// guarded is a list with spare room behind its end, of which a copy is kept.
type guarded[T comparable] struct {
	list []T
	kept []T
}

func guard[T comparable](list []T, mark T) guarded[T] {
	room := append(append([]T{}, list...), mark, mark, mark)
	return guarded[T]{list: room[:len(list)], kept: append([]T{}, room...)}
}

func (g guarded[T]) check(t *testing.T, call string) {
	t.Helper()
	room := g.list[:cap(g.list)]
	for i, x := range g.kept {
		if room[i] != x {
			t.Errorf("%s wrote into its argument, at %d of %d", call, i, len(g.list))
			return
		}
	}
}

// spoil writes over all of a list, spare room included.
func spoil[T any](list []T, mark T) {
	list = list[:cap(list)]
	for i := range list {
		list[i] = mark
	}
}

// sharesText says whether two texts have a byte of memory in common.
func sharesText(a, b string) bool {
	if a == "" || b == "" {
		return false
	}
	x := uintptr(unsafe.Pointer(unsafe.StringData(a)))
	y := uintptr(unsafe.Pointer(unsafe.StringData(b)))
	return x < y+uintptr(len(b)) && y < x+uintptr(len(a))
}

// farNumbers are those at which sums and shifts go wrong.
var farNumbers = []int{math.MinInt, math.MinInt + 1, math.MinInt32 - 1, math.MinInt32, math.MaxInt32, math.MaxInt32 + 1, math.MaxUint32, math.MaxUint32 + 1, math.MaxInt - 32, math.MaxInt - 1, math.MaxInt}

// valuesOf is what a map has, by its keys in order, so that every run sees the same.
func valuesOf[V any](of map[string]V) iter.Seq[V] {
	return func(yield func(V) bool) {
		for _, key := range slices.Sorted(maps.Keys(of)) {
			if !yield(of[key]) {
				return
			}
		}
	}
}
