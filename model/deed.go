package model

import (
	"math"
	"slices"
	"strings"

	"atrium/api"
	"atrium/cred"
	"atrium/mac"
	"atrium/text"
)

// latest is the last tick at which a session may expire.
const latest = math.MaxInt64

// deed is what calls of a kind do: whether what they say may be, whatever the tenant has; and, if so, what is told and done.
type deed struct {
	may func(c api.Call) bool
	do  func(h *holding, c api.Call, now uint64) api.Answer
}

// deeds is what calls do, by their kinds.
func deeds() map[int]deed {
	return map[int]deed{
		api.CallCreate:     {mayCreate, (*holding).create},
		api.CallGet:        {mayAnyway, (*holding).get},
		api.CallTouch:      {mayTouch, (*holding).touch},
		api.CallRevoke:     {mayAnyway, (*holding).revoke},
		api.CallRevokeUser: {hasName, (*holding).revokeUser},
		api.CallRevokeAll:  {mayAnyway, (*holding).revokeAll},
		api.CallList:       {hasName, (*holding).list},
		api.CallAudit:      {hasFrom, (*holding).audit},
		api.CallStats:      {mayAnyway, (*holding).stats},
	}
}

func mayAnyway(api.Call) bool {
	return true
}

func mayCreate(c api.Call) bool {
	return hasName(c) && len(c.Data) <= api.MaxData && text.Valid(c.Data) && mayTouch(c)
}

func mayTouch(c api.Call) bool {
	return c.TTL >= 1 && c.TTL <= api.MaxTTL
}

func hasName(c api.Call) bool {
	return text.Name(c.User)
}

func hasFrom(c api.Call) bool {
	return c.From >= 1
}

// refused is what a call is told that does nothing.
func refused(status int, word string) api.Answer {
	return api.Answer{Status: status, Word: word}
}

func missing() api.Answer {
	return refused(404, "missing")
}

// expiry is the tick up to which what is asked for at a tick lives. A tick above the latest one counts as that, so that no sum wraps.
func expiry(now uint64, ttl int) uint64 {
	return min(min(now, latest)+uint64(ttl), latest)
}

func (h *holding) create(c api.Call, now uint64) api.Answer {
	if h.isFull(now) {
		return refused(429, "quota")
	}
	s := api.Session{Token: cred.Token(uint64(h.next), c.Draw), User: c.User, Data: c.Data, Expires: expiry(now, c.TTL)}
	h.next++
	h.sessions[s.Token] = s
	h.note(c.Kind, now, s.Token)
	return api.Answer{Status: 201, Token: s.Token, Expires: s.Expires}
}

func (h *holding) get(c api.Call, now uint64) api.Answer {
	s, is := h.find(c.Token, now)
	if !is {
		return missing()
	}
	return api.Answer{Status: 200, User: s.User, Data: s.Data, Expires: s.Expires}
}

func (h *holding) touch(c api.Call, now uint64) api.Answer {
	s, is := h.find(c.Token, now)
	if !is {
		return missing()
	}
	s.Expires = expiry(now, c.TTL)
	h.sessions[s.Token] = s
	h.note(c.Kind, now, s.Token)
	return api.Answer{Status: 200, Expires: s.Expires}
}

func (h *holding) revoke(c api.Call, now uint64) api.Answer {
	if _, is := h.find(c.Token, now); !is {
		return missing()
	}
	delete(h.sessions, c.Token)
	h.note(c.Kind, now, c.Token)
	return api.Answer{Status: 204}
}

func (h *holding) revokeUser(c api.Call, now uint64) api.Answer {
	gone := h.drop(h.livingOf(c.User, now))
	if gone > 0 {
		h.note(c.Kind, now, c.User)
	}
	return api.Answer{Status: 200, Revoked: gone}
}

func (h *holding) revokeAll(c api.Call, now uint64) api.Answer {
	gone := h.drop(h.living(now))
	if gone > 0 {
		h.note(c.Kind, now, "")
	}
	return api.Answer{Status: 200, Revoked: gone}
}

func (h *holding) list(c api.Call, now uint64) api.Answer {
	a := api.Answer{Status: 200}
	l := h.livingOf(c.User, now)
	for _, s := range l[:min(len(l), api.MaxTokens)] {
		a.Tokens = append(a.Tokens, s.Token)
	}
	return a
}

func (h *holding) audit(c api.Call, _ uint64) api.Answer {
	rest := h.entries[min(c.From-1, len(h.entries)):]
	return api.Answer{Status: 200, Entries: slices.Clone(rest[:min(len(rest), api.MaxEntries)]), Head: mac.Hex(h.head)}
}

func (h *holding) stats(_ api.Call, now uint64) api.Answer {
	l := h.living(now)
	of := map[string]int{}
	for _, s := range l {
		of[s.User]++
	}
	return api.Answer{Status: 200, Live: len(l), Users: len(of), Total: len(h.entries), Next: h.next}
}

func lives(s api.Session, now uint64) bool {
	return s.Expires > now
}

// find is the session of a token, if it lives.
func (h *holding) find(token string, now uint64) (api.Session, bool) {
	s, is := h.sessions[token]
	return s, is && lives(s, now)
}

// isFull tells whether as many sessions live as the quota, or more: where the clock was turned back there may be more.
func (h *holding) isFull(now uint64) bool {
	n := 0
	for _, s := range h.sessions {
		if lives(s, now) {
			n++
		}
	}
	return n >= h.quota
}

// living is the sessions that live, by their tokens.
func (h *holding) living(now uint64) []api.Session {
	var l []api.Session
	for _, s := range h.sessions {
		if lives(s, now) {
			l = append(l, s)
		}
	}
	slices.SortFunc(l, func(a, b api.Session) int { return strings.Compare(a.Token, b.Token) })
	return l
}

// livingOf is those of one user.
func (h *holding) livingOf(user string, now uint64) []api.Session {
	return slices.DeleteFunc(h.living(now), func(s api.Session) bool { return s.User != user })
}

// drop lets the first of some sessions be gone: how many.
func (h *holding) drop(l []api.Session) int {
	l = l[:min(len(l), api.MaxRevoke)]
	for _, s := range l {
		delete(h.sessions, s.Token)
	}
	return len(l)
}

// note puts an entry behind the list.
func (h *holding) note(kind int, now uint64, subject string) {
	e := api.Entry{Number: len(h.entries) + 1, Kind: kind, Tick: now, Subject: subject}
	h.entries = append(h.entries, e)
	h.head = mac.Chain(h.head, Text(e))
}
