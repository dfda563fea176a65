package svc

import (
	"atrium/api"
	"atrium/json"
	"atrium/reply"
)

// What stands around a token in a Cookie.
const (
	cookieName = "sid="
	cookieRest = "; Path=/; HttpOnly"
)

// tells is which fields of an answer calls of a kind are told with 200.
func tells() map[int]func(a api.Answer) map[string]any {
	return map[int]func(a api.Answer) map[string]any{
		api.CallGet:        tellSession,
		api.CallTouch:      tellExpires,
		api.CallRevokeUser: tellRevoked,
		api.CallRevokeAll:  tellRevoked,
		api.CallList:       tellTokens,
		api.CallAudit:      tellEntries,
		api.CallStats:      tellStats,
	}
}

// Reply is an answer as a reply.
func Reply(c api.Call, a api.Answer) api.Reply {
	if a.Status >= 400 {
		return reply.Error(a.Status, a.Word)
	}
	r := api.Reply{Status: a.Status}
	if a.Status == 201 {
		r.Cookie = cookieName + a.Token + cookieRest
	}
	if a.Status != 204 {
		r.Body, _ = json.Print(object(c.Kind, a)) // what has no text leaves the Body empty
	}
	return r
}

// object is what an answer tells; nothing, where the document names no field.
func object(kind int, a api.Answer) map[string]any {
	if a.Status == 201 {
		return tellCreated(a)
	}
	tell, is := tells()[kind]
	if a.Status != 200 || !is {
		return map[string]any{}
	}
	return tell(a)
}

func tellCreated(a api.Answer) map[string]any {
	return map[string]any{"expires": number(a.Expires), "token": a.Token}
}

func tellSession(a api.Answer) map[string]any {
	return map[string]any{"data": a.Data, "expires": number(a.Expires), "user": a.User}
}

func tellExpires(a api.Answer) map[string]any {
	return map[string]any{"expires": number(a.Expires)}
}

func tellRevoked(a api.Answer) map[string]any {
	return map[string]any{"revoked": a.Revoked}
}

func tellTokens(a api.Answer) map[string]any {
	var l []any
	for _, token := range a.Tokens {
		l = append(l, token)
	}
	return map[string]any{"tokens": l}
}

func tellEntries(a api.Answer) map[string]any {
	var l []any
	for _, x := range a.Entries {
		l = append(l, map[string]any{"kind": x.Kind, "number": x.Number, "subject": x.Subject, "tick": number(x.Tick)})
	}
	return map[string]any{"entries": l, "head": a.Head}
}

func tellStats(a api.Answer) map[string]any {
	return map[string]any{"entries": a.Total, "live": a.Live, "next": a.Next, "users": a.Users}
}
