package lin_test

import (
	"encoding/base64"
	"encoding/binary"
	"fmt"
	"math/rand"
	"reflect"
	"testing"

	"atrium/api"
	"atrium/cred"
	"atrium/lin"
	"atrium/server"
)

// want fails the test, if what was told is not what should be.
func want[T any](t *testing.T, what string, got, should T) {
	t.Helper()
	if !reflect.DeepEqual(got, should) {
		t.Errorf("%.600s: %.900s, not %.900s", what, fmt.Sprintf("%+v", got), fmt.Sprintf("%+v", should))
	}
}

// found is what Order, Explain and Sent tell.
type found struct {
	is bool
	n  int
}

var (
	fine = found{true, 0}
	bad0 = found{false, 0}
)

func bad(n int) found {
	return found{false, n}
}

// looked is all that is told of a record.
type looked struct {
	order, explain, sent found
	worlds               int
}

// look asks all, and holds it against the second telling.
func look(t *testing.T, what string, c api.Config, l []api.Term, x api.Told) looked {
	t.Helper()
	var got looked
	ahead := copied(x)
	got.order.is, got.order.n = lin.Order(c, l, x)
	got.explain.is, got.explain.n = lin.Explain(c, l, x)
	got.sent.is, got.sent.n = lin.Sent(c, l, x)
	got.worlds = lin.Worlds(c, x)
	want(t, what+": what was handed in", copied(x), ahead)
	should := looked{order: orderAgain(l, x), explain: explainAgain(c, l, x), sent: sentAgain(c, l, x), worlds: worldsAgain(c, x)}
	want(t, what, got, should)
	return got
}

// copied is a record that shares nothing with another one; empty lists are nil.
func copied(x api.Told) api.Told {
	x.Terms, x.End = ownList(x.Terms), ownList(x.End)
	for i := range x.Terms {
		s := &x.Terms[i]
		s.Asked, s.Lines = ownList(s.Asked), ownList(s.Lines)
		for j := range s.Asked {
			a := &s.Asked[j].Answer
			a.Tokens, a.Entries = ownList(a.Tokens), ownList(a.Entries)
		}
	}
	for i := range x.End {
		x.End[i] = api.Kept{Sessions: ownList(x.End[i].Sessions), Entries: ownList(x.End[i].Entries)}
	}
	return x
}

func ownList[T any](l []T) []T {
	return append([]T(nil), l...)
}

// turned is a record of which something is changed.
func turned(x api.Told, turn func(x *api.Told)) api.Told {
	y := copied(x)
	turn(&y)
	return y
}

// some is tenants with these quotas, whose names do not rise.
func some(quotas ...int) []api.Tenant {
	names := []string{"b", "a", "a-", "acme"}
	var l []api.Tenant
	for i, n := range quotas {
		l = append(l, api.Tenant{Name: names[i], Key: "k" + names[i], Quota: n})
	}
	return l
}

// config is a server's of tenants with these quotas, with room; little is laid down and merged.
func config(quotas ...int) api.Config {
	o := api.Options{Shape: api.Shape{Block: 256, Restart: 4, Bits: 8}, Mem: 1000, Zero: 1, Base: 2000, Fan: 2}
	return api.Config{Tenants: some(quotas...), Options: o, Capacity: api.MaxDisk}
}

// token is the token of two numbers.
func token(n, draw uint64) string {
	b := binary.BigEndian.AppendUint64(nil, n)
	return base64.RawURLEncoding.EncodeToString(binary.BigEndian.AppendUint64(b, draw))
}

// ask is a request of a tenant, with some fields more.
func ask(t api.Tenant, method, target, body string, more ...string) string {
	s, e := cred.Mint(t)
	if e != api.OK {
		panic(e)
	}
	head := method + " " + target + " HTTP/1.1\r\nHost: x\r\nAuthorization: Bearer " + s + "\r\n"
	for _, line := range more {
		head += line + "\r\n"
	}
	if body != "" {
		head += fmt.Sprintf("Content-Length: %d\r\n", len(body))
	}
	return head + "\r\n" + body
}

// create is a request for a session.
func create(t api.Tenant, user string, ttl int) string {
	return ask(t, "POST", "/sessions", fmt.Sprintf(`{"user":%q,"ttl":%d,"data":"x"}`, user, ttl))
}

func stats(t api.Tenant) string {
	return ask(t, "GET", "/stats", "")
}

// closing is the field by which a request closes its connection.
const closing = "Connection: close"

func at(step, conn int, bytes string) api.Arrival {
	return api.Arrival{Step: step, Conn: conn, Bytes: bytes}
}

// term is a term of as many steps as there are picks, without a Stop.
func term(picks []int, l ...api.Arrival) api.Term {
	return api.Term{Steps: len(picks), Stop: -1, Timing: api.Timing{Picks: picks}, Arrivals: l}
}

// zeros is so many picks of the first connection.
func zeros(n int) []int {
	return make([]int, n)
}

// turns is so many picks of the connections in turn.
func turns(n int) []int {
	var l []int
	for i := range n {
		l = append(l, i%8)
	}
	return l
}

// The tasks behind the connections, as picks.
const (
	laysDown = 8 + iota
	merges
	sweeps
	tasks // how many there are
)

// play plays what must come to an end that can be read, and must be right.
func play(t *testing.T, c api.Config, l ...api.Term) api.Told {
	t.Helper()
	x := server.Play(c, l)
	want(t, "Err", x.Err, api.OK)
	got := look(t, "as it was played", c, l, x)
	if got.order != fine || got.explain != fine || got.sent != fine || got.worlds < 1 {
		t.Errorf("as it was played: %+v", got)
	}
	return x
}

func pickOf[T any](r *rand.Rand, l ...T) T {
	return l[r.Intn(len(l))]
}

// cutUp is bytes in pieces.
func cutUp(r *rand.Rand, s string, most int) []string {
	var l []string
	for range r.Intn(most) {
		n := r.Intn(len(s) + 1)
		l = append(l, s[:n])
		s = s[n:]
	}
	return append(l, s)
}

// refusal is the bytes of a reply that tells what is wrong.
func refusal(status, word string, closes bool) string {
	body := `{"error":"` + word + `"}`
	s := fmt.Sprintf("HTTP/1.1 %s\r\nContent-Type: application/json\r\nContent-Length: %d\r\n", status, len(body))
	if closes {
		s += "Connection: close\r\n"
	}
	return s + "\r\n" + body
}

// lines is those of connections on which nothing is sent.
func lines() []api.Line {
	return make([]api.Line, 8)
}
