package json

// mostNested is how many parts may stand in one another. What has more may lead back into itself, and a copy of that would not end.
const mostNested = 1 << 16

// own is what v is, in memory of its own; what is neither a list nor an object stays what it is.
func own(v any) any {
	if !isWithin(v, mostNested) {
		return v
	}
	return copyOf(v)
}

// ownItems is a new list of what each item is.
func ownItems(l []any) []any {
	items := make([]any, 0, len(l))
	for _, x := range l {
		items = append(items, own(x))
	}
	return items
}

// isWithin tells whether v has at most so many lists and objects in one another.
func isWithin(v any, depth int) bool {
	switch x := v.(type) {
	case []any:
		return depth > 0 && allWithin(x, depth-1)
	case map[string]any:
		return depth > 0 && fieldsWithin(x, depth-1)
	}
	return true
}

func allWithin(l []any, depth int) bool {
	for _, x := range l {
		if !isWithin(x, depth) {
			return false
		}
	}
	return true
}

func fieldsWithin(m map[string]any, depth int) bool {
	for _, x := range m {
		if !isWithin(x, depth) {
			return false
		}
	}
	return true
}

func copyOf(v any) any {
	switch x := v.(type) {
	case []any:
		l := make([]any, 0, len(x))
		for _, part := range x {
			l = append(l, copyOf(part))
		}
		return l
	case map[string]any:
		m := make(map[string]any, len(x))
		for name, part := range x {
			m[name] = copyOf(part)
		}
		return m
	}
	return v
}
