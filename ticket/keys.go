package ticket

import "gatherum/api"

// kind is what belongs to a key.
type kind int

// The kinds of keys.
const (
	aTitle kind = iota
	numbers
	aBinding
	aStyle
	aScheme
	names
)

// key is what a ticket's line begins with.
type key struct {
	word        string
	kind        kind
	first       int // the place (15) of its first number, if it has one
	least, most int // how many parts belong to it
}

// keys answers all keys, in order. Their numbers stand as a job's do (15),
// one key's behind the other's.
func keys() []key {
	return []key{
		{"title", aTitle, 0, 1, 1},
		{"pages", numbers, 0, 1, 1},
		{"box", numbers, 1, 2, 2},
		{"trim", numbers, 3, 2, 2},
		{"bleed", numbers, 5, 1, 1},
		{"margins", numbers, 6, 4, 4},
		{"binding", aBinding, 10, 1, 1},
		{"folds", aScheme, 0, 1, 1 + api.MaxSteps},
		{"last", names, 0, 1, api.MaxLast},
		{"style", aStyle, 11, 1, 1},
		{"sheet", numbers, 12, 2, 2},
		{"area", numbers, 14, 3, 3},
		{"paper", numbers, 17, 3, 3},
		{"quarter", numbers, 20, 1, 1},
		{"marks", numbers, 21, 3, 3},
		{"stair", numbers, 24, 4, 4},
	}
}

// find answers the key of that word, if there is one.
func find(word string) (key, bool) {
	for _, k := range keys() {
		if k.word == word {
			return k, true
		}
	}
	return key{}, false
}

// mayLack tells whether a ticket needs no line of k.
func mayLack(k key) bool {
	return k.kind == names
}
