package model_test

import (
	"crypto/sha256"
	"encoding/base64"
	"encoding/binary"
	"encoding/hex"
	"fmt"
	"math"
	"reflect"
	"sort"
	"strings"
	"testing"
	"unicode/utf8"

	"atrium/api"
	"atrium/model"
)

// want fails the test, if what was told is not what should be.
func want[T any](t *testing.T, what string, got, should T) {
	t.Helper()
	if !reflect.DeepEqual(got, should) {
		t.Errorf("%s: %.400s, not %.400s", what, fmt.Sprintf("%+v", got), fmt.Sprintf("%+v", should))
	}
}

// wantAnswer is want of answers: nil and the empty list are the same.
func wantAnswer(t *testing.T, what string, got, should api.Answer) {
	t.Helper()
	want(t, what, plain(got), plain(should))
}

// plain is an answer with nil in the place of empty lists.
func plain(a api.Answer) api.Answer {
	a.Tokens = plainList(a.Tokens)
	a.Entries = plainList(a.Entries)
	return a
}

func plainList[T any](l []T) []T {
	if len(l) == 0 {
		return nil
	}
	return l
}

// The words beside refusals, written out.
var (
	bad     = api.Answer{Status: 400, Word: "bad"}
	missing = api.Answer{Status: 404, Word: "missing"}
	over    = api.Answer{Status: 429, Word: "quota"}
)

// many is so many tenants, each with that quota.
func many(n, quota int) []api.Tenant {
	var l []api.Tenant
	for i := range n {
		l = append(l, api.Tenant{Name: fmt.Sprint("t", i), Key: "k", Quota: quota})
	}
	return l
}

// token is the token of two numbers.
func token(n, draw uint64) string {
	b := binary.BigEndian.AppendUint64(nil, n)
	return base64.RawURLEncoding.EncodeToString(binary.BigEndian.AppendUint64(b, draw))
}

// textOf is an entry's text.
func textOf(e api.Entry) string {
	b := binary.AppendUvarint(nil, uint64(e.Number))
	b = binary.AppendUvarint(b, uint64(e.Kind))
	b = binary.AppendUvarint(b, e.Tick)
	b = binary.AppendUvarint(b, uint64(len(e.Subject)))
	return string(b) + e.Subject
}

// headOf is the head of a list, in digits.
func headOf(l []api.Entry) string {
	head := make([]byte, 32)
	for _, e := range l {
		s := textOf(e)
		head = binary.BigEndian.AppendUint64(head, uint64(len(s)))
		sum := sha256.Sum256(append(head, s...))
		head = sum[:]
	}
	return hex.EncodeToString(head)
}

// second is the chapter told a second time: sessions in the order in which they were made, those that are gone without a token.
type second struct {
	quota    int
	sessions []api.Session
	entries  []api.Entry
	next     int
}

// isName is the words of the text's chapter.
func isName(s string) bool {
	if !utf8.ValidString(s) || len(s) < 1 || len(s) > 64 {
		return false
	}
	for _, r := range s {
		if r < 0x20 || r >= 0x7F && r <= 0x9F || r == 0x2028 || r == 0x2029 || r == 0xFEFF {
			return false
		}
	}
	return true
}

// sum is now and a TTL together.
func sum(now uint64, ttl int) uint64 {
	n := now + uint64(ttl)
	if n < now || n > 1<<63-1 {
		return 1<<63 - 1
	}
	return n
}

// lives is the places of the sessions of a user (or of all) that live, by rising tokens.
func (s *second) lives(now uint64, is func(api.Session) bool) []int {
	var l []int
	for i, x := range s.sessions {
		if x.Token != "" && now < x.Expires && is(x) {
			l = append(l, i)
		}
	}
	sort.Slice(l, func(i, j int) bool { return s.sessions[l[i]].Token < s.sessions[l[j]].Token })
	return l
}

func anybody(api.Session) bool { return true }

func somebody(user string) func(api.Session) bool {
	return func(x api.Session) bool { return x.User == user }
}

func (s *second) note(c api.Call, now uint64, subject string) {
	s.entries = append(s.entries, api.Entry{Number: len(s.entries) + 1, Kind: c.Kind, Tick: now, Subject: subject})
}

// rid lets sessions be gone.
func (s *second) rid(c api.Call, now uint64, l []int, subject string) api.Answer {
	n := 0
	for _, i := range l {
		if n < 256 {
			s.sessions[i].Token = ""
			n++
		}
	}
	if n > 0 {
		s.note(c, now, subject)
	}
	return api.Answer{Status: 200, Revoked: n}
}

// do is a row of the chapter's table.
func (s *second) do(c api.Call, now uint64) api.Answer {
	ttl := 1 <= c.TTL && c.TTL <= 1<<31-1
	own := s.lives(now, func(x api.Session) bool { return x.Token == c.Token })
	switch c.Kind {
	case 1:
		if !isName(c.User) || len(c.Data) > 512 || !utf8.ValidString(c.Data) || !ttl {
			return bad
		}
		if len(s.lives(now, anybody)) >= s.quota {
			return over
		}
		x := api.Session{Token: token(uint64(s.next), c.Draw), User: c.User, Data: c.Data, Expires: sum(now, c.TTL)}
		s.sessions = append(s.sessions, x)
		s.next++
		s.note(c, now, x.Token)
		return api.Answer{Status: 201, Token: x.Token, Expires: x.Expires}
	case 2, 3, 4:
		if c.Kind == 3 && !ttl {
			return bad
		}
		if len(own) == 0 {
			return missing
		}
		return s.one(c, now, &s.sessions[own[0]])
	case 5, 7:
		if !isName(c.User) {
			return bad
		}
		l := s.lives(now, somebody(c.User))
		if c.Kind == 5 {
			return s.rid(c, now, l, c.User)
		}
		a := api.Answer{Status: 200}
		for _, i := range l[:min(256, len(l))] {
			a.Tokens = append(a.Tokens, s.sessions[i].Token)
		}
		return a
	case 6:
		return s.rid(c, now, s.lives(now, anybody), "")
	case 8:
		return s.some(c.From)
	case 9:
		users := map[string]bool{}
		for _, i := range s.lives(now, anybody) {
			users[s.sessions[i].User] = true
		}
		return api.Answer{Status: 200, Live: len(s.lives(now, anybody)), Users: len(users), Total: len(s.entries), Next: s.next}
	}
	return bad
}

// one is what is done to a session that lives.
func (s *second) one(c api.Call, now uint64, x *api.Session) api.Answer {
	switch c.Kind {
	case 2:
		return api.Answer{Status: 200, User: x.User, Data: x.Data, Expires: x.Expires}
	case 3:
		x.Expires = sum(now, c.TTL)
		s.note(c, now, c.Token)
		return api.Answer{Status: 200, Expires: x.Expires}
	}
	x.Token = ""
	s.note(c, now, c.Token)
	return api.Answer{Status: 204}
}

// some is some entries.
func (s *second) some(from int) api.Answer {
	if from < 1 {
		return bad
	}
	a := api.Answer{Status: 200, Head: headOf(s.entries)}
	for _, e := range s.entries {
		if e.Number >= from && len(a.Entries) < 16 {
			a.Entries = append(a.Entries, e)
		}
	}
	return a
}

// play is a world, and what is held against it.
type play struct {
	t *testing.T
	w *model.World
	s []*second
}

// fresh is a world of tenants with these quotas.
func fresh(t *testing.T, quotas ...int) *play {
	t.Helper()
	p := &play{t: t}
	l := many(len(quotas), 0)
	for i, n := range quotas {
		l[i].Quota = n
		p.s = append(p.s, &second{quota: n, next: 1})
	}
	w, e := model.New(l)
	if e != api.OK || w == nil {
		t.Fatal("New", e)
	}
	p.w = w
	return p
}

// do is a call, held against the second telling.
func (p *play) do(c api.Call, now uint64) api.Answer {
	p.t.Helper()
	should := bad
	if c.Tenant >= 0 && c.Tenant < len(p.s) {
		should = p.s[c.Tenant].do(c, now)
	}
	got := p.w.Do(c, now)
	wantAnswer(p.t, fmt.Sprintf("%.200s at %d", fmt.Sprintf("%+v", c), now), got, should)
	return got
}

// told is do, and what it should be told, written out.
func (p *play) told(c api.Call, now uint64, should api.Answer) {
	p.t.Helper()
	wantAnswer(p.t, fmt.Sprintf("%.200s at %d", fmt.Sprintf("%+v", c), now), p.do(c, now), should)
}

// create makes a session of tenant 0, which must be told 201: its token.
func (p *play) create(user string, ttl int, now uint64) string {
	p.t.Helper()
	return p.createOf(0, user, ttl, now)
}

func (p *play) createOf(tenant int, user string, ttl int, now uint64) string {
	p.t.Helper()
	a := p.do(api.Call{Kind: api.CallCreate, Tenant: tenant, User: user, Data: "x", TTL: ttl, Draw: 77}, now)
	if a.Status != 201 {
		p.t.Fatalf("create: %+v", a)
	}
	return a.Token
}

// check holds all that a world tells of itself against the second telling.
func (p *play) check(ticks ...uint64) {
	p.t.Helper()
	for i, s := range p.s {
		for _, now := range append([]uint64{0}, ticks...) {
			var l []api.Session
			for _, k := range s.lives(now, anybody) {
				l = append(l, s.sessions[k])
			}
			want(p.t, fmt.Sprint("Live of ", i, " at ", now), plainList(p.w.Live(i, now)), l)
		}
		want(p.t, "Entries", plainList(p.w.Entries(i)), s.entries)
		want(p.t, "Head", p.w.Head(i), headOf(s.entries))
		want(p.t, "Next", p.w.Next(i), s.next)
	}
}

// standing is all that a world tells of itself, of so many tenants.
func standing(w *model.World, tenants int) string {
	var b strings.Builder
	for i := range tenants {
		b.WriteString(standingOf(w, i))
	}
	return b.String()
}

func standingOf(w *model.World, tenant int) string {
	s := fmt.Sprintf("%+v %+v %s %d\n", w.Live(tenant, 0), w.Entries(tenant), w.Head(tenant), w.Next(tenant))
	for _, now := range []uint64{1, 10, 20, 100, 1 << 40, math.MaxInt64, math.MaxUint64} {
		s += fmt.Sprintf("%d: %+v\n", now, w.Live(tenant, now))
	}
	return s
}
