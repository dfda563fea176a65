package http

import (
	"strings"

	"atrium/api"
)

// Check tells why a request may not be.
func Check(r api.Request) api.Errno {
	if len(r.Body) > api.MaxBody {
		return api.ErrBig
	}
	body, e := right(r)
	if e != api.OK || body != len(r.Body) || closes(r) != r.Close || !areFields(r.Fields) {
		return api.ErrHead
	}
	if len(printHead(r)) > api.MaxHead {
		return api.ErrWide
	}
	return api.OK
}

func areFields(l []api.Field) bool {
	for _, f := range l {
		if !isField(f) {
			return false
		}
	}
	return true
}

// Print is a request's bytes.
func Print(r api.Request) (string, api.Errno) {
	if e := Check(r); e != api.OK {
		return "", e
	}
	return printHead(r) + r.Body, api.OK
}

func printHead(r api.Request) string {
	var b strings.Builder
	b.WriteString(r.Method + " " + r.Target + " " + version + lineEnd)
	for _, f := range r.Fields {
		b.WriteString(f.Name + ": " + f.Value + lineEnd)
	}
	b.WriteString(lineEnd)
	return b.String()
}
