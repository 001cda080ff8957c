package read_test

import (
	"math"
	"slices"
	"strings"
	"testing"

	"dwindle/api"
	"dwindle/read"
)

// P2.5

func TestPosText(t *testing.T) {
	for _, x := range []struct {
		pos []int
		s   string
	}{
		{nil, "e"}, {[]int{}, "e"}, {[]int{0}, "0"}, {[]int{7}, "7"}, {[]int{1, 0, 7}, "1.0.7"}, {[]int{0, 0}, "0.0"},
		{make([]int, api.MaxDeep), strings.Repeat("0.", api.MaxDeep-1) + "0"},
	} {
		if s, e := read.PosText(x.pos); s != x.s || e != api.OK {
			t.Error(x.pos, s, e)
		}
		if pos, e := read.Pos(x.s); !slices.Equal(pos, x.pos) || e != api.OK {
			t.Error(x.s, pos, e)
		}
	}
}

func TestPosTextErrors(t *testing.T) {
	for _, x := range []struct {
		pos []int
		e   api.Errno
	}{
		{[]int{-1}, api.ErrRange},
		{[]int{8}, api.ErrRange},
		{[]int{0, 1, 10}, api.ErrRange},
		{[]int{math.MaxInt, 0}, api.ErrRange},
		{[]int{0, math.MinInt}, api.ErrRange},
		{append(make([]int, api.MaxDeep-1), 8), api.ErrRange},
		{make([]int, api.MaxDeep+1), api.ErrLimit},
		{append(make([]int, api.MaxDeep), 8), api.ErrLimit},
		{slices.Repeat([]int{-1}, 100000), api.ErrLimit},
	} {
		if s, e := read.PosText(x.pos); s != "" || e != x.e {
			t.Error(len(x.pos), s, e)
		}
	}
}

func TestPosErrors(t *testing.T) {
	full := strings.Repeat("0.", api.MaxDeep-1) + "0"
	for _, s := range []string{
		"", ".", "..", "1.", ".1", "1..2", "8", "9", "0.8", "10", "1.10", "00", "01", "1.01", "+1", "-1", "1.-1", "1,2", "1 2", " 1", "1 ", "1\n", "e.1", "1.e", "ee",
		"E", "e ", " e", "\x00", "1.\x00", "é", "١", "0x1", "1.2.", "1:2", "/", ":", full + ".", full + ".0", full + "0", full + ".0.0", strings.Repeat("0.", 100000) + "0",
	} {
		if pos, e := read.Pos(s); len(pos) > 0 || e != api.ErrForm {
			t.Errorf("%.40q: %v, error %d", s, pos, e)
		}
	}
}

// shortStrings returns all strings of at most four bytes with these letters.
func shortStrings(letters string) []string {
	list := []string{""}
	for from, n := 0, 1; n <= 4; n++ {
		last := list[from:]
		from = len(list)
		for _, s := range last {
			for i := range len(letters) {
				list = append(list, s+letters[i:i+1])
			}
		}
	}
	return list
}

// Pos accepts the results of PosText and nothing else.
func TestPosInverse(t *testing.T) {
	texts := map[string][]int{"e": {}}
	for i := range api.MaxArity {
		s, _ := read.PosText([]int{i})
		texts[s] = []int{i}
		for j := range api.MaxArity {
			s, _ := read.PosText([]int{i, j})
			texts[s] = []int{i, j}
		}
	}
	for _, s := range shortStrings("0123456789.e +-") {
		pos, e := read.Pos(s)
		want, ok := texts[s]
		if ok && (e != api.OK || !slices.Equal(pos, want)) || !ok && (e != api.ErrForm || len(pos) > 0) {
			t.Errorf("%q: %v, error %d", s, pos, e)
		}
	}
}
