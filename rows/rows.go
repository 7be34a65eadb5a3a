// Package rows keeps rows short: tables of one partition, the last one at the end.
package rows

import (
	"slices"

	"gatepost/api"
)

// Renewed is a row with x as its last one, without what x takes the place of, and without the first ones, if there are more than MaxEntries. What it is made of is written into.
func Renewed[T any](row []T, x T, same func(T) bool) []T {
	row = append(slices.DeleteFunc(row, same), x)
	return slices.Delete(row, 0, max(0, len(row)-api.MaxEntries))
}
