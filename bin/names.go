package bin

import (
	"slices"
	"strconv"
)

// lengthen is the names, and behind them so many new ones.
func lengthen(names []string, more int) []string {
	out := append([]string(nil), names...)
	for number := 0; len(out) < len(names)+more; number++ {
		if name := "_" + strconv.Itoa(number); !slices.Contains(names, name) {
			out = append(out, name)
		}
	}
	return out
}
