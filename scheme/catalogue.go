package scheme

import "strings"

// catalogue yields each name, in order, and its scheme as a text of parts: a
// text costs nothing where only the name is asked for, and the scheme that is
// read of it is new each time.
func catalogue(yield func(name, text string) bool) {
	rows := [...]string{
		"F2-1 1x1",
		"F4-1 2x1 L1",
		"F4-2 1x2 B1",
		"F6-1 3x1 R1 L1",
		"F6-2 3x1 L1u R1",
		"F8-1 2x2 B1 L1",
		"F8-2 4x1 L2 L1",
		"F8-3 4x1 L1 R1u L1",
		"F12-1 3x2 B1 R1 L1",
		"F12-2 6x1 L3 R1 L1",
		"F16-1 4x2 L2 B1 L1",
		"F16-2 2x4 B2 B1 L1",
		"F16-3 8x1 L4 L2 L1",
		"F16-4 4x2 B1 L2 L1",
		"F24-1 3x4 B2 B1 R1 L1",
		"F24-2 6x2 L3 B1 R1 L1",
		"F32-1 4x4 B2 L2 B1 L1",
		"F32-2 8x2 L4 L2 B1 L1",
		"F48-1 6x4 L3 B2 B1 R1 L1",
		"F64-1 8x4 L4 B2 L2 B1 L1",
		"F128-1 8x8 L4 B4 L2 B2 B1 L1",
	}
	for _, row := range rows {
		name, text, _ := strings.Cut(row, blank)
		if !yield(name, text) {
			return
		}
	}
}
