package tests

import (
	"testing"

	"loop.example/almanack/impl"
)

func TestLimits(t *testing.T) {
	limits := []struct {
		name      string
		got, want int
	}{
		{"BitMax", impl.BitMax, 6000},
		{"TimeMax", impl.TimeMax, 9999},
		{"ValueMax", impl.ValueMax, 2147483647},
		{"PieceMax", impl.PieceMax, 60},
		{"LabelMax", impl.LabelMax, 4},
		{"NameMax", impl.NameMax, 6},
		{"WordMax", impl.WordMax, 8},
		{"MatchMax", impl.MatchMax, 4},
		{"ListMax", impl.ListMax, 40},
		{"RowMax", impl.RowMax, 10},
		{"PointMax", impl.PointMax, 1000},
		{"Window", impl.Window, 300},
		{"Base", impl.Base, 100},
		{"BatchMax", impl.BatchMax, 6},
		{"LogMax", impl.LogMax, 100000},
		{"NumMax", impl.NumMax, 9999},
		{"HeldMax", impl.HeldMax, 60},
		{"TombMax", impl.TombMax, 6},
		{"PlayMax", impl.PlayMax, 120},
	}
	for _, l := range limits {
		if l.got != l.want {
			t.Errorf("%s is %d, not %d", l.name, l.got, l.want)
		}
	}
}
