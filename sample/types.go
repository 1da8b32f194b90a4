package sample

import "strings"

// Comparable makes a type that has equal.
func (m *Maker) Comparable() string {
	return Pick(m, "int", "int", "bool", "coin", "null", "array[int]", "record[l:int,r:bool]", "oneof[l:int,r:null]")
}

// Type makes a type of at most so many levels, which are those of what is made of it, too.
func (m *Maker) Type(levels int) string {
	if m.isPlain {
		return Pick(m, "int", "int", "bool")
	}
	switch {
	case m.isOpen && m.IntN(3) == 0:
		return "?t"
	case m.own != "" && m.IntN(4) == 0:
		return m.own
	case levels <= 1 || m.IntN(3) == 0:
		return Pick(m, "int", "int", "int", "bool", "null", "coin", "count")
	}
	inner := m.Type(levels - 1)
	switch m.IntN(7) {
	case 0, 1:
		return "array[" + inner + "]"
	case 2:
		return "record[l:" + inner + ",r:" + m.Type(1) + "]"
	case 3:
		return "oneof[l:" + inner + ",r:" + m.Type(1) + "]"
	case 4:
		return "bag[" + m.Comparable() + "]"
	case 5:
		return "list[" + inner + "]"
	}
	return "box[" + inner + "]"
}

// isSmall reports whether a type can stand inside another one.
func isSmall(t string) bool {
	return strings.Count(t, "[") < 3 && len(t) < 40
}

// argument makes what can stand in the place of a parameter in the routine that is made.
func (m *Maker) argument() string {
	if m.isOpen && m.IntN(2) == 0 {
		return "?t"
	}
	return m.Comparable()
}

// Divided returns the names and the types of the parts of a record or a oneof.
func Divided(t string) (names, types []string) {
	_, inner, _ := strings.Cut(strings.TrimSuffix(t, "]"), "[")
	depth, from := 0, 0
	for i, c := range inner + "," {
		switch {
		case c == '[':
			depth++
		case c == ']':
			depth--
		case c == ',' && depth == 0:
			name, of, _ := strings.Cut(inner[from:i], ":")
			names, types = append(names, name), append(types, of)
			from = i + 1
		}
	}
	return names, types
}
