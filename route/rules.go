package route

import (
	"strconv"
	"strings"

	"atrium/api"
	"atrium/text"
)

// hole is where T or U stands in a rule's path; no word is empty.
const hole = ""

// How a list is asked for from an entry on: the name, from where on without a query, up to where.
const (
	fromName  = "from"
	firstFrom = 1
	mostFrom  = 999999999
)

// rule is a row of the table of routes: its method, the pieces of its path, what it asks for but for what a target says. part is where the piece in the hole is kept (nil without one); read puts in what a query says, and tells whether it may be there; write is the query, question mark and all.
type rule struct {
	method string
	path   []string
	asks   api.Route
	part   func(x *api.Route) *string
	read   func(x *api.Route, query string, has bool) bool
	write  func(x api.Route) string
}

// rules is the table of routes.
func rules() []rule {
	token := func(x *api.Route) *string { return &x.Token }
	user := func(x *api.Route) *string { return &x.User }
	bare := func(method string, asks api.Route, part func(*api.Route) *string, path ...string) rule {
		return rule{method, path, asks, part, noQuery, noText}
	}
	return []rule{
		bare("POST", api.Route{Kind: api.CallCreate}, nil, "sessions"),
		bare("GET", api.Route{Kind: api.CallGet}, token, "sessions", hole),
		bare("POST", api.Route{Kind: api.CallTouch}, token, "sessions", hole, "touch"),
		bare("DELETE", api.Route{Kind: api.CallRevoke}, token, "sessions", hole),
		bare("DELETE", api.Route{Kind: api.CallRevokeUser}, user, "users", hole, "sessions"),
		bare("DELETE", api.Route{Kind: api.CallRevokeAll}, nil, "sessions"),
		bare("GET", api.Route{Kind: api.CallList}, user, "users", hole, "sessions"),
		{"GET", []string{"audit"}, api.Route{Kind: api.CallAudit}, nil, readFrom, writeFrom},
		bare("GET", api.Route{Kind: api.CallGet, Me: true}, nil, "me"),
		bare("GET", api.Route{Kind: api.CallStats}, nil, "stats"),
	}
}

func noQuery(_ *api.Route, _ string, has bool) bool {
	return !has
}

func noText(api.Route) string {
	return ""
}

func readFrom(x *api.Route, query string, has bool) bool {
	if !has {
		x.From = firstFrom
		return true
	}
	l, _ := Query(query)
	if len(l) != 1 || l[0].Key != fromName {
		return false
	}
	n, e := text.Digits(l[0].Value, mostFrom)
	x.From = n
	return e == api.OK
}

func writeFrom(x api.Route) string {
	return question + fromName + "=" + strconv.Itoa(x.From)
}

// rulesOf is the rules that have a target's path, whatever its query; none, if it is no target.
func rulesOf(target string) []rule {
	if _, _, _, e := Split(target); e != api.OK {
		return nil
	}
	path, _, _ := strings.Cut(target, question)
	raw := rawPieces(path)
	var l []rule
	for _, r := range rules() {
		if r.has(raw) {
			l = append(l, r)
		}
	}
	return l
}

// has tells whether these, as they stand in a path, are a rule's pieces: words are not unescaped, and what is not empty stays so.
func (r rule) has(raw []string) bool {
	if len(raw) != len(r.path) {
		return false
	}
	for i, word := range r.path {
		if word == hole && raw[i] == "" || word != hole && raw[i] != word {
			return false
		}
	}
	return true
}

// fill is what a rule asks for of a path's pieces, unescaped.
func (r rule) fill(pieces []string) api.Route {
	x := r.asks
	for i, word := range r.path {
		if word == hole {
			*r.part(&x) = pieces[i]
		}
	}
	return x
}

// print is a rule's target for a route.
func (r rule) print(x api.Route) string {
	var b strings.Builder
	for _, word := range r.path {
		if word == hole {
			word = text.Escape(*r.part(&x))
		}
		b.WriteString(slash + word)
	}
	return b.String() + r.write(x)
}
