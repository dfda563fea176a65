package server

import (
	"atrium/api"
	"atrium/cookie"
	"atrium/cred"
	"atrium/http"
	"atrium/json"
	"atrium/reply"
	"atrium/route"
)

// The fields and the cookie by which it is said who asks.
const (
	fieldCredential = "authorization"
	fieldCookie     = "cookie"
	cookieName      = "sid"
)

// Meaning is what a request asks; or the reply that it is refused with.
func Meaning(l []api.Tenant, r api.Request) (api.Call, api.Reply, bool) {
	tenant, e := cred.Who(l, http.All(r, fieldCredential))
	if e != api.OK {
		return refuse(401, "credential")
	}
	x, status := route.Find(r.Method, r.Target)
	if status != 200 {
		return refuse(status, wrongRoute(status))
	}
	c := api.Call{Kind: x.Kind, Tenant: tenant, Token: x.Token, User: x.User, From: x.From}
	if x.Me {
		token, is := cookie.Find(http.All(r, fieldCookie), cookieName)
		if !is {
			return refuse(401, "cookie")
		}
		c.Token = token
	}
	if !readBody(&c, r.Body) {
		return refuse(400, "body")
	}
	return c, api.Reply{}, true
}

func refuse(status int, word string) (api.Call, api.Reply, bool) {
	return api.Call{}, reply.Error(status, word), false
}

// wrongRoute is the word of what route.Find tells of a request that has no route.
func wrongRoute(status int) string {
	switch status {
	case 404:
		return "route"
	case 405:
		return "method"
	}
	return "target"
}

// noRequest is the reply to bytes that are none.
func noRequest(e api.Errno) api.Reply {
	switch e {
	case api.ErrBig:
		return reply.Error(413, "large")
	case api.ErrWide:
		return reply.Error(431, "wide")
	}
	return reply.Error(400, "request")
}

// readBody puts what a body says into a call; false, if calls of its kind have no such body.
func readBody(c *api.Call, body string) bool {
	switch c.Kind {
	case api.CallCreate:
		return readObject(body, map[string]any{"data": &c.Data, "ttl": &c.TTL, "user": &c.User})
	case api.CallTouch:
		return readObject(body, map[string]any{"ttl": &c.TTL})
	}
	return body == ""
}

// readObject puts what an object's fields say into places; false, if it has not just these fields, each of its place's type. What is no object has no names.
func readObject(body string, places map[string]any) bool {
	v, e, _ := json.Parse(body)
	if e != api.OK || len(json.Names(v)) != len(places) {
		return false
	}
	for name, place := range places {
		x, _ := json.Field(v, name) // null, which has no place, if there is none
		if !put(place, x) {
			return false
		}
	}
	return true
}

// put puts a value into a place, if it is of its type.
func put(place, x any) bool {
	is := false
	switch p := place.(type) {
	case *string:
		*p, is = json.Text(x)
	case *int:
		*p, is = json.Number(x)
	}
	return is
}
