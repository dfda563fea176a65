package server_test

import (
	"crypto/hmac"
	"crypto/sha256"
	"encoding/base64"
	"encoding/binary"
	"encoding/hex"
	"fmt"
	"math/rand"
	"reflect"
	"testing"

	"atrium/api"
	"atrium/server"
)

// want fails the test, if what was told is not what should be.
func want[T any](t *testing.T, what string, got, should T) {
	t.Helper()
	if !reflect.DeepEqual(got, should) {
		t.Errorf("%.600s: %.1500s, not %.1500s", what, fmt.Sprintf("%+v", got), fmt.Sprintf("%+v", should))
	}
}

// plain is what was told with nil in the place of empty lists.
func plain(x api.Told) api.Told {
	x.Terms, x.End = plainList(x.Terms), plainList(x.End)
	for i, s := range x.Terms {
		s.Asked, s.Lines = plainList(s.Asked), plainList(s.Lines)
		for j := range s.Asked {
			s.Asked[j].Answer = plainAnswer(s.Asked[j].Answer)
		}
		x.Terms[i] = s
	}
	for i, k := range x.End {
		x.End[i] = api.Kept{Sessions: plainList(k.Sessions), Entries: plainList(k.Entries)}
	}
	return x
}

func plainAnswer(a api.Answer) api.Answer {
	a.Tokens, a.Entries = plainList(a.Tokens), plainList(a.Entries)
	return a
}

func plainList[T any](l []T) []T {
	if len(l) == 0 {
		return nil
	}
	return l
}

// some is tenants with these quotas, whose names do not rise.
func some(quotas ...int) []api.Tenant {
	names := []string{"b", "a", "a-", "acme"}
	var l []api.Tenant
	for i, n := range quotas {
		l = append(l, api.Tenant{Name: names[i], Key: "k" + names[i], Quota: n})
	}
	return l
}

// small is options with which little is laid down and merged.
func small() api.Options {
	return api.Options{Shape: api.Shape{Block: 256, Restart: 4, Bits: 8}, Mem: 1000, Zero: 1, Base: 2000, Fan: 2}
}

// config is a server's of tenants with these quotas, with room.
func config(quotas ...int) api.Config {
	return api.Config{Tenants: some(quotas...), Options: small(), Capacity: api.MaxDisk}
}

// credential is a tenant's, by the library's HMAC.
func credential(t api.Tenant) string {
	m := hmac.New(sha256.New, []byte(t.Key))
	m.Write([]byte("tenant:" + t.Name))
	return t.Name + "." + hex.EncodeToString(m.Sum(nil))
}

// token is the token of two numbers.
func token(n, draw uint64) string {
	b := binary.BigEndian.AppendUint64(nil, n)
	return base64.RawURLEncoding.EncodeToString(binary.BigEndian.AppendUint64(b, draw))
}

// mix is sched's, told a second time.
func mix(x uint64) uint64 {
	for _, by := range []struct {
		shift  uint
		factor uint64
	}{{30, 0xBF58476D1CE4E5B9}, {27, 0x94D049BB133111EB}} {
		x = (x ^ x>>by.shift) * by.factor
	}
	return x ^ x>>31
}

// drawOf is a request's draw where the Timing's first one is that.
func drawOf(first uint64, conn, nth int) uint64 {
	return mix(mix(first+uint64(conn)) + uint64(nth))
}

// ask is a request of a tenant, with some fields more.
func ask(t api.Tenant, method, target, body string, more ...string) string {
	head := method + " " + target + " HTTP/1.1\r\nHost: x\r\nAuthorization: Bearer " + credential(t) + "\r\n"
	for _, line := range more {
		head += line + "\r\n"
	}
	if body != "" {
		head += fmt.Sprintf("Content-Length: %d\r\n", len(body))
	}
	return head + "\r\n" + body
}

// create is a request for a session.
func create(t api.Tenant, user string, ttl int) string {
	return ask(t, "POST", "/sessions", fmt.Sprintf(`{"user":%q,"ttl":%d,"data":"x"}`, user, ttl))
}

// createCall is the call of create on a connection that has a first draw of 0.
func createCall(tenant int, user string, ttl, conn, nth int) api.Call {
	return api.Call{Kind: api.CallCreate, Tenant: tenant, User: user, Data: "x", TTL: ttl, Draw: drawOf(0, conn, nth)}
}

func stats(t api.Tenant) string {
	return ask(t, "GET", "/stats", "")
}

// closing is the field by which a request closes its connection.
const closing = "Connection: close"

func at(step, conn int, bytes string) api.Arrival {
	return api.Arrival{Step: step, Conn: conn, Bytes: bytes}
}

// term is a term of as many steps as there are picks, without a Stop.
func term(picks []int, l ...api.Arrival) api.Term {
	return api.Term{Steps: len(picks), Stop: -1, Timing: api.Timing{Picks: picks}, Arrivals: l}
}

// zeros is so many picks of the first connection.
func zeros(n int) []int {
	return make([]int, n)
}

// The tasks behind the connections, as picks.
const (
	laysDown = 8 + iota
	merges
	sweeps
	tasks // how many there are
)

// play plays, and holds what is told against the second telling, and against what must hold of every play.
func play(t *testing.T, c api.Config, l ...api.Term) api.Told {
	t.Helper()
	told := server.Play(c, l)
	should, swept := playAgain(c, l)
	want(t, "Play", plain(told), plain(should))
	judge(t, c, l, told, swept)
	return told
}

// served is play of one term, that must be opened, and its end, too.
func served(t *testing.T, c api.Config, x api.Term) api.Served {
	t.Helper()
	told := play(t, c, x)
	if told.Err != api.OK || len(told.Terms) != 1 || told.Terms[0].Open != api.OK {
		t.Fatalf("Play: %+v", told)
	}
	return told.Terms[0]
}

// wantAsked holds some requests against what should be of them: of each that is there.
func wantAsked(t *testing.T, what string, got []api.Asked, should ...api.Asked) {
	t.Helper()
	want(t, what+": how many", len(got), len(should))
	for i := range min(len(got), len(should)) {
		g := got[i]
		g.Answer = plainAnswer(g.Answer)
		want(t, fmt.Sprintf("%s: request %d", what, i), g, should[i])
	}
}

// short is what became of a request, but for its call and answer.
type short struct{ Conn, Nth, First, Point, Done, Status, Fate int }

func shorts(l []api.Asked) []short {
	var all []short
	for _, x := range l {
		all = append(all, short{x.Conn, x.Nth, x.First, x.Point, x.Done, x.Status, x.Fate})
	}
	return all
}

// refusal is the bytes of a reply that tells what is wrong.
func refusal(status, word string, closes bool) string {
	body := `{"error":"` + word + `"}`
	s := fmt.Sprintf("HTTP/1.1 %s\r\nContent-Type: application/json\r\nContent-Length: %d\r\n", status, len(body))
	if closes {
		s += "Connection: close\r\n"
	}
	return s + "\r\n" + body
}

// told200 is the bytes of a reply with a body.
func told200(body string) string {
	return fmt.Sprintf("HTTP/1.1 200 OK\r\nContent-Type: application/json\r\nContent-Length: %d\r\n\r\n%s", len(body), body)
}

// told201 is the bytes of a create's reply.
func told201(token string, expires int) string {
	body := fmt.Sprintf(`{"expires":%d,"token":"%s"}`, expires, token)
	return fmt.Sprintf("HTTP/1.1 201 Created\r\nContent-Type: application/json\r\nContent-Length: %d\r\nSet-Cookie: sid=%s; Path=/; HttpOnly\r\n\r\n%s", len(body), token, body)
}

func pickOf[T any](r *rand.Rand, l ...T) T {
	return l[r.Intn(len(l))]
}

// statuses is how often each Status was told in a play.
func statuses(x api.Told, of map[int]int) {
	for _, s := range x.Terms {
		for _, a := range s.Asked {
			of[a.Status]++
		}
	}
}

// fates is how often each Fate was met in a play.
func fates(x api.Told, of map[int]int) {
	for _, s := range x.Terms {
		for _, a := range s.Asked {
			of[a.Fate]++
		}
	}
}

// cutUp is bytes in pieces.
func cutUp(r *rand.Rand, s string, most int) []string {
	var l []string
	for range r.Intn(most) {
		n := r.Intn(len(s) + 1)
		l = append(l, s[:n])
		s = s[n:]
	}
	return append(l, s)
}

func hasAll(t *testing.T, what string, of map[int]int, least int, keys ...int) {
	t.Helper()
	for _, k := range keys {
		if of[k] < least {
			t.Errorf("%s: %v", what, of)
			return
		}
	}
}
