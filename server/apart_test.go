package server_test

import (
	"fmt"
	"slices"
	"strings"
	"testing"

	"atrium/api"
	"atrium/server"
)

// padded is a request of just so many bytes, by a field that says nothing.
func padded(s string, size int) string {
	head, body, _ := strings.Cut(s, "\r\n\r\n")
	const field = "\r\nX-Pad: "
	return head + field + strings.Repeat("p", size-len(s)-len(field)) + "\r\n\r\n" + body
}

// other is a play in which the second tenant asks other things on its connections: as many bytes, other ones.
func (d *dice) other(l []api.Term, own func(conn int) bool) ([]api.Term, []api.Term) {
	lone := *d
	a, b := slices.Clone(l), slices.Clone(l)
	for i := range l {
		a[i].Arrivals, b[i].Arrivals = nil, nil
		for _, x := range l[i].Arrivals {
			y := x
			if own(x.Conn) {
				one, two := lone.ofSecond(), lone.ofSecond()
				size := max(len(one), len(two)) + 20
				x.Bytes, y.Bytes = padded(one, size), padded(two, size)
			}
			a[i].Arrivals, b[i].Arrivals = append(a[i].Arrivals, x), append(b[i].Arrivals, y)
		}
	}
	return a, b
}

// ofSecond is a request of the second tenant.
func (d *dice) ofSecond() string {
	b := d.c.Tenants[1]
	switch d.r.Intn(8) {
	case 0:
		return ask(b, "DELETE", "/sessions", "")
	case 1:
		return ask(b, "GET", "/users/ada/sessions", "")
	case 2:
		return ask(b, "GET", "/nothing", "")
	case 3:
		return ask(b, "GET", "/%", "")
	case 4:
		return ask(b, "GET", "/stats", "", closing)
	}
	return create(b, pickOf(d.r, "ada", "eve"), d.r.Intn(30))
}

// ofOthers is a stream in which no request is the second tenant's.
func (d *dice) ofOthers(n int) string {
	var s strings.Builder
	for range n {
		r := d.request()
		for strings.Contains(r, "Bearer "+credential(d.c.Tenants[1])) {
			r = d.request()
		}
		s.WriteString(r)
	}
	return s.String()
}

func TestApart(t *testing.T) { // P27.6: what a tenant asks changes no byte that others are sent
	told := map[int]int{}
	unlike := 0
	for seed := range int64(60) {
		d := newDice(6000 + seed)
		d.c = config(4, 3, 5)
		d.c.Options.Mem = pickOf(d.r, 1, 300, 3000)
		d.tokens = make([][]string, 3)
		own := func(conn int) bool { return conn == 2 || conn == 3 || conn == 6 }
		var l []api.Term
		for range 1 + d.r.Intn(2) {
			x := api.Term{Steps: 150, Stop: -1}
			x.Timing = d.timing(x.Steps)
			for range 2 {
				for conn := range 8 {
					from := d.r.Intn(100)
					for i := range 3 {
						s := "x"
						if !own(conn) {
							s = d.ofOthers(d.r.Intn(2))
						}
						x.Arrivals = append(x.Arrivals, at(from+i, conn, s))
					}
				}
				d.learn(append(slices.Clone(l), x))
			}
			x.Crash = d.keeps()
			l = append(l, x)
		}
		one, two := d.other(l, own)
		x, y := server.Play(d.c, one), server.Play(d.c, two)
		want(t, "Err", []api.Errno{x.Err, y.Err}, []api.Errno{api.OK, api.OK})
		statuses(x, told)
		for i := range l {
			for conn := range 8 {
				a, b := x.Terms[i].Lines[conn], y.Terms[i].Lines[conn]
				if own(conn) && a != b {
					unlike++
				}
				if !own(conn) {
					want(t, fmt.Sprintf("seed %d: term %d, connection %d", seed, i, conn), a, b)
				}
			}
		}
		for _, i := range []int{0, 2} {
			want(t, "End", plain(api.Told{End: x.End[i : i+1]}), plain(api.Told{End: y.End[i : i+1]}))
		}
	}
	hasAll(t, "told", told, 50, 200, 201, 404)
	if unlike < 60 {
		t.Errorf("%d were unlike", unlike)
	}
}

func TestFlood(t *testing.T) { // P27.6: one that floods the server; the others' replies are the same
	c := config(50, 50)
	a, b := c.Tenants[0], c.Tenants[1]
	quiet := []api.Arrival{at(0, 0, create(a, "ada", 99)+stats(a)+ask(a, "GET", "/audit", "")), at(50, 1, create(a, "ada", 99)+stats(a))}
	x := api.Term{Steps: 900, Stop: -1}
	for k := range x.Steps {
		x.Timing.Picks = append(x.Timing.Picks, []int{0, 1, 2, 3, 4, 5, 6, 7, 8, 9, 10}[(k*7)%11])
	}
	x.Arrivals = quiet
	should := played(t, c, x)
	for i := range 250 {
		x.Arrivals = append(x.Arrivals, at(i, 2+i%6, strings.Repeat(create(b, "eve", 1+i), 5)))
	}
	got := played(t, c, x)
	want(t, "the others", got.Lines[:2], should.Lines[:2])
	want(t, "the flood is answered", len(got.Asked) > 40, true)
	if shorts(should.Asked)[0].Status != 201 {
		t.Errorf("%+v", should.Asked)
	}
}

// played is a term of which the second telling is not asked.
func played(t *testing.T, c api.Config, x api.Term) api.Served {
	t.Helper()
	told := server.Play(c, []api.Term{x})
	if told.Err != api.OK || told.Terms[0].Open != api.OK {
		t.Fatalf("Play: %d", told.Err)
	}
	judge(t, c, []api.Term{x}, told, nil)
	return told.Terms[0]
}
