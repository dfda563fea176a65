package manifest

import (
	"slices"

	"atrium/api"
)

// Files is the numbers of all files, rising.
func Files(s api.State) []int {
	var numbers []int
	for _, f := range files(s.Version) {
		numbers = append(numbers, f.Number)
	}
	slices.Sort(numbers)
	return numbers
}

// Overlap is the files of a level that could have keys from from on and up to to.
func Overlap(s api.State, level int, from, to string) []api.Sst {
	var met []api.Sst
	for at, f := range files(s.Version) {
		if at == level && f.First <= to && f.Last >= from {
			met = append(met, f)
		}
	}
	return met
}
