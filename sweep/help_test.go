package sweep_test

import (
	"encoding/base64"
	"encoding/binary"
	"fmt"
	"reflect"
	"sort"
	"strings"
	"testing"

	"atrium/api"
	"atrium/lsm"
	"atrium/sweep"
	"atrium/vfs"
)

// want fails the test, if what was told is not what should be.
func want[T any](t *testing.T, what string, got, should T) {
	t.Helper()
	if !reflect.DeepEqual(got, should) {
		t.Errorf("%s: %.500s, not %.500s", what, fmt.Sprintf("%+v", got), fmt.Sprintf("%+v", should))
	}
}

func eight(n uint64) string {
	return string(binary.BigEndian.AppendUint64(nil, n))
}

// token is the token of two numbers.
func token(n, draw uint64) string {
	return base64.RawURLEncoding.EncodeToString([]byte(eight(n) + eight(draw)))
}

// key is that of a tenant's record of a letter.
func key(tenant, letter string, behind ...string) string {
	return "\x02" + tenant + "\x00\x02" + letter + "\x00" + strings.Join(behind, "")
}

func textPart(s string) string { return "\x02" + s + "\x00" }

func numberPart(n uint64) string { return "\x01" + eight(n) }

func sessionKey(tenant, token string) string { return key(tenant, "s", textPart(token)) }

func userKey(tenant, user, token string) string {
	return key(tenant, "u", textPart(user), textPart(token))
}

func expiryKey(tenant string, expires uint64, token string) string {
	return key(tenant, "e", numberPart(expires), textPart(token))
}

// sessionValue is a session's bytes; its User and Data are short.
func sessionValue(s api.Session) string {
	return string([]byte{byte(len(s.User))}) + s.User + string([]byte{byte(len(s.Data))}) + s.Data + eight(s.Expires)
}

// some is a session of a tenant: the nth.
func some(n int, expires uint64) api.Session {
	return api.Session{Token: token(uint64(n), 7), User: []string{"ada", "eve", "é"}[n%3], Data: "x", Expires: expires}
}

// recordsOf is a session's records.
func recordsOf(tenant string, s api.Session) []api.Pair {
	return []api.Pair{
		{Key: expiryKey(tenant, s.Expires, s.Token)},
		{Key: sessionKey(tenant, s.Token), Value: sessionValue(s)},
		{Key: userKey(tenant, s.User, s.Token)},
	}
}

// disk is a file system with room.
func disk() *vfs.FS {
	f, _ := vfs.New(api.MaxDisk)
	return f
}

func open(t *testing.T, f *vfs.FS) *lsm.DB {
	t.Helper()
	d, e := lsm.Open(f, api.Options{Shape: api.Shape{Block: 256, Restart: 4, Bits: 8}, Mem: 3000, Zero: 2, Base: 4000, Fan: 3})
	if e != api.OK {
		t.Fatal("Open", e)
	}
	return d
}

// fresh is an engine in which some pairs lie.
func fresh(t *testing.T, l ...api.Pair) *lsm.DB {
	t.Helper()
	d := open(t, disk())
	write(t, d, l...)
	return d
}

// write writes pairs as they are.
func write(t *testing.T, d *lsm.DB, l ...api.Pair) {
	t.Helper()
	for _, p := range l {
		if _, e := d.Write([]api.Write{{Key: p.Key, Value: p.Value}}); e != api.OK {
			t.Fatal("Write", e)
		}
	}
}

// all is what lies in an engine.
func all(d *lsm.DB) []api.Pair {
	var l []api.Pair
	for k, v := range d.Scan("", "", d.Info().Seq) {
		l = append(l, api.Pair{Key: k, Value: v})
	}
	return l
}

// wantLies is that just these pairs lie in an engine, in whatever order they are handed in.
func wantLies(t *testing.T, what string, d *lsm.DB, lists ...[]api.Pair) {
	t.Helper()
	var should []api.Pair
	for _, l := range lists {
		should = append(should, l...)
	}
	sort.Slice(should, func(i, j int) bool { return should[i].Key < should[j].Key })
	want(t, what+": what lies there", all(d), should)
	want(t, what+": what is kept", d.Info().Oldest, d.Info().Seq)
}

// expiryOf is where a session's record by expiry is.
func expiryOf(tenant string, s api.Session) api.Place {
	return api.Place{Kind: api.PlaceExpiry, Tenant: tenant, Expires: s.Expires, Token: s.Token}
}

// wantFind is what Find should tell.
func wantFind(t *testing.T, d *lsm.DB, tenants []string, now uint64, should api.Place) {
	t.Helper()
	p, is := sweep.Find(d, tenants, now)
	want(t, fmt.Sprintf("Find of %.80q at %d", tenants, now), p, should)
	want(t, fmt.Sprintf("Find of %.80q at %d", tenants, now), is, should.Kind != 0)
}

// wantStep is what Step should tell.
func wantStep(t *testing.T, d *lsm.DB, tenants []string, now uint64, should bool, fault api.Errno) {
	t.Helper()
	did, e := sweep.Step(d, tenants, now)
	want(t, fmt.Sprintf("Step of %.80q at %d", tenants, now), e, fault)
	want(t, fmt.Sprintf("Step of %.80q at %d", tenants, now), did, should)
}

// wantRun is what Run should tell.
func wantRun(t *testing.T, d *lsm.DB, tenants []string, now uint64, most, should int, fault api.Errno) {
	t.Helper()
	n, e := sweep.Run(d, tenants, now, most)
	want(t, fmt.Sprintf("Run of %.80q at %d, %d at most", tenants, now, most), e, fault)
	want(t, fmt.Sprintf("Run of %.80q at %d, %d at most", tenants, now, most), n, should)
}

// wantNone is that nothing can be swept, and that nothing is.
func wantNone(t *testing.T, d *lsm.DB, tenants []string, now uint64) {
	t.Helper()
	ahead := d.Info()
	wantFind(t, d, tenants, now, api.Place{})
	wantStep(t, d, tenants, now, false, api.OK)
	wantRun(t, d, tenants, now, 99, 0, api.OK)
	want(t, fmt.Sprintf("Left of %.80q at %d", tenants, now), sweep.Left(d, tenants, now), 0)
	want(t, "the engine", d.Info(), ahead)
}
