package tabs

import (
	"gatepost/api"
	"gatepost/world"
)

// perPart is how many cells a partition has; the Clock is the world's.
const perPart = 3

// clock is the place of the Clock's number, behind those of all partitions.
const clock = api.MaxParts * perPart

// numbers are one for each cell.
type numbers [clock + 1]int

// each visits the places of the numbers of a partition's cells.
func each(part, cells int, visit func(place int)) {
	for i, cell := range [perPart]int{world.Bank, world.Book, world.Certs} {
		if cells&cell != 0 {
			visit(part*perPart + i)
		}
	}
	if cells&world.Clock != 0 {
		visit(clock)
	}
}

// differ says whether a number of the cells is another one than before.
func (l *numbers) differ(before numbers, part, cells int) bool {
	found := false
	each(part, cells, func(place int) { found = found || l[place] != before[place] })
	return found
}

// rise lets each number of the cells be one more.
func (l *numbers) rise(part, cells int) {
	each(part, cells, func(place int) { l[place]++ })
}
