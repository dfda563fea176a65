package json

import (
	"strings"

	"atrium/api"
	"atrium/text"
)

// Pointer is where a pointer leads.
func Pointer(v any, path string) (any, bool) {
	x, ok := follow(v, path)
	if !ok {
		return nil, false
	}
	return own(x), true
}

func follow(v any, path string) (any, bool) {
	for path != "" {
		if path[0] != '/' {
			return nil, false
		}
		raw, _, _ := strings.Cut(path[1:], "/")
		step, ok := stepOf(raw)
		if !ok {
			return nil, false
		}
		if v, ok = part(v, step); !ok {
			return nil, false
		}
		path = path[1+len(raw):]
	}
	return v, true
}

// stepOf is what a step says. It is read once, from its begin on: what a ~0 stands for begins no other mark.
func stepOf(raw string) (string, bool) {
	var step []byte
	for i := 0; i < len(raw); i++ {
		if raw[i] != '~' {
			step = append(step, raw[i])
			continue
		}
		i++
		if i == len(raw) {
			return "", false
		}
		switch raw[i] {
		case '0':
			step = append(step, '~')
		case '1':
			step = append(step, '/')
		default:
			return "", false
		}
	}
	return string(step), true
}

// part is an object's field, or an array's item.
func part(v any, step string) (any, bool) {
	switch x := v.(type) {
	case map[string]any:
		field, has := x[step]
		return field, has
	case []any:
		n, e := text.Digits(step, len(x)-1)
		if e != api.OK {
			return nil, false
		}
		return x[n], true
	}
	return nil, false
}
