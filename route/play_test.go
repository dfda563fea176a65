package route_test

import (
	"math/rand"
	"strings"
	"testing"

	"atrium/route"
)

func TestTurned(t *testing.T) { // P20.1, P20.2, P20.4: each byte in each place, put in, left out, cut off
	told := map[int]int{}
	for _, s := range []string{"/sessions", "/sessions/a%2Fb", "/sessions/t/touch", "/users/%41/sessions", "/audit", "/audit?from=10", "/me", "/stats", "/audit?%66rom=%31"} {
		wantAsSecond(t, s, told)
		for i := range len(s) {
			wantAsSecond(t, s[:i], told)
			wantAsSecond(t, s[i:], told)
			wantAsSecond(t, s[:i]+s[i+1:], told)
			for b := range 256 {
				wantAsSecond(t, s[:i]+one(b)+s[i+1:], told)
				wantAsSecond(t, s[:i]+one(b)+s[i:], told)
			}
		}
	}
}

func TestPlays(t *testing.T) { // P20.1, P20.2, P20.4: pieces of targets, one behind the other
	r := rand.New(rand.NewSource(20))
	told := map[int]int{}
	pieces := []string{"/", "/sessions", "/users", "/audit", "/me", "/stats", "/touch", "/a", "/%41", "sessions", "?", "?from=1", "?from=", "1", "0", "&", "=", "from", "%", "%2F", "%zz", "é", "\x00"}
	for range 20000 {
		var b strings.Builder
		if r.Intn(2) == 0 {
			b.WriteString([]string{"/sessions", "/sessions/t", "/sessions/t/touch", "/users/u/sessions", "/audit", "/audit?from=", "/me"}[r.Intn(7)])
		}
		for range r.Intn(5) {
			b.WriteString(pieces[r.Intn(len(pieces))])
		}
		if r.Intn(50) == 0 {
			b.WriteString(strings.Repeat("x", 990+r.Intn(50)))
		}
		wantAsSecond(t, b.String(), told)
	}
	for _, status := range []int{200, 400, 404, 405} {
		if told[status] < 1000 {
			t.Errorf("%d was told %d times", status, told[status])
		}
	}
}

func TestAnyBytes(t *testing.T) { // R1, P20.1, P20.2
	r := rand.New(rand.NewSource(201))
	for range 10000 {
		b := make([]byte, r.Intn(30))
		r.Read(b)
		for _, ahead := range []string{"", "/", "/sessions/", "/audit?", "/audit?from="} {
			wantAsSecond(t, ahead+string(b), map[int]int{})
		}
		route.Find(string(b), "/sessions")
		route.Query(string(b))
	}
}
