package http

import (
	"strings"

	"atrium/api"
	"atrium/text"
)

// The fields that say how a request is read.
const (
	host       = "host"
	length     = "content-length"
	coding     = "transfer-encoding"
	connection = "connection"
)

// digits are a number's.
const digits = "0123456789"

// readHead is the parts of a head without its end; false, if its lines have not the form. Whether the parts go together is right's to say.
func readHead(head string) (api.Request, bool) {
	lines := strings.Split(head, lineEnd)
	words := strings.Split(lines[0], " ")
	if len(words) != 3 || words[2] != version {
		return api.Request{}, false
	}
	fields, is := readFields(lines[1:len(lines):len(lines)])
	return api.Request{Method: words[0], Target: words[1], Fields: fields}, is
}

// readFields is the fields that lines are, up to the first one that is none; whether there was no such one.
func readFields(lines []string) ([]api.Field, bool) {
	var fields []api.Field
read:
	for _, line := range lines {
		name, value, is := strings.Cut(line, ":")
		f := api.Field{Name: name, Value: text.Trim(value)}
		switch {
		case !is, !isField(f):
			break read
		}
		fields = append(fields, f)
	}
	return fields, len(fields) == len(lines)
}

// right is how many bytes the body behind a head has; ErrHead, if the head is not right, ErrBig, if these are more than may be. Each field for itself is isField's to say.
func right(r api.Request) (int, api.Errno) {
	if !isMethod(r.Method) || !isTarget(r.Target) || len(r.Fields) > api.MaxFields {
		return 0, api.ErrHead
	}
	counts := map[string]int{}
	for _, f := range r.Fields {
		counts[text.Lower(f.Name)]++
	}
	if counts[host] != 1 || counts[length] > 1 || counts[coding] > 0 {
		return 0, api.ErrHead
	}
	said, is := Get(r, length)
	if !is {
		return 0, api.OK
	}
	return bodySize(said)
}

// bodySize is how many bytes a content-length says.
func bodySize(said string) (int, api.Errno) {
	n, e := text.Digits(said, api.MaxBody)
	switch {
	case e == api.OK:
		return n, api.OK
	case e == api.ErrLong, isNumber(said):
		return 0, api.ErrBig
	}
	return 0, api.ErrHead
}

// isNumber tells whether a text is digits without a nought ahead, however many: text.Digits takes only some.
func isNumber(s string) bool {
	return s != "" && s[0] != '0' && strings.Trim(s, digits) == ""
}

// closes tells whether the fields say that the connection ends behind the answer.
func closes(r api.Request) bool {
	for _, value := range All(r, connection) {
		if text.Lower(value) == "close" {
			return true
		}
	}
	return false
}

func isMethod(s string) bool {
	if len(s) < 1 || len(s) > api.MaxMethod {
		return false
	}
	for i := range len(s) {
		if s[i] < 'A' || s[i] > 'Z' {
			return false
		}
	}
	return true
}

func isTarget(s string) bool {
	if !strings.HasPrefix(s, "/") || len(s) > api.MaxTarget {
		return false
	}
	for i := range len(s) {
		if s[i] < 0x21 || s[i] > 0x7E {
			return false
		}
	}
	return true
}

func isField(f api.Field) bool {
	return text.Token(f.Name) && isValue(f.Value)
}

// isValue tells whether a text may be a field's value, around which nothing is left to be trimmed.
func isValue(s string) bool {
	for i := range len(s) {
		if s[i] < 0x20 && s[i] != '\t' || s[i] == 0x7F {
			return false
		}
	}
	return text.Trim(s) == s
}
