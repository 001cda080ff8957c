package read

import (
	"strconv"
	"strings"

	"dwindle/api"
)

// empty is the text of the empty position.
const empty = "e"

// PosText returns the indices of a position, separated by periods.
func PosText(pos []int) (string, api.Errno) {
	if len(pos) > api.MaxDeep {
		return "", api.ErrLimit
	}
	var words []string
	for _, i := range pos {
		if i < 0 || i >= api.MaxArity {
			return "", api.ErrRange
		}
		words = append(words, strconv.Itoa(i))
	}
	if len(words) == 0 {
		return empty, api.OK
	}
	return strings.Join(words, "."), api.OK
}

// Pos returns the position with this text. An index has one digit, because MaxArity is below 10: the digits are where
// they must be if the text of their position is s again.
func Pos(s string) ([]int, api.Errno) {
	if len(s) > 2*api.MaxDeep {
		return nil, api.ErrForm
	}
	if s == empty {
		return nil, api.OK
	}
	var pos []int
	for i := 0; i < len(s); i += 2 {
		pos = append(pos, int(s[i])-'0')
	}
	if text, e := PosText(pos); e != api.OK || text != s {
		return nil, api.ErrForm
	}
	return pos, api.OK
}
