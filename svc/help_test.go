package svc_test

import (
	"crypto/sha256"
	"encoding/base64"
	"encoding/binary"
	"encoding/hex"
	"fmt"
	"reflect"
	"sort"
	"strings"
	"testing"

	"atrium/api"
	"atrium/lsm"
	"atrium/model"
	"atrium/record"
	"atrium/svc"
	"atrium/vfs"
)

// want fails the test, if what was told is not what should be.
func want[T any](t *testing.T, what string, got, should T) {
	t.Helper()
	if !reflect.DeepEqual(got, should) {
		t.Errorf("%s: %.500s, not %.500s", what, fmt.Sprintf("%+v", got), fmt.Sprintf("%+v", should))
	}
}

// wantAnswer is want of answers: nil and the empty list are the same.
func wantAnswer(t *testing.T, what string, got, should api.Answer) {
	t.Helper()
	want(t, what, plain(got), plain(should))
}

// plain is an answer with nil in the place of empty lists.
func plain(a api.Answer) api.Answer {
	a.Tokens = plainList(a.Tokens)
	a.Entries = plainList(a.Entries)
	return a
}

func plainList[T any](l []T) []T {
	if len(l) == 0 {
		return nil
	}
	return l
}

// The answers that refuse, written out.
var (
	bad     = api.Answer{Status: 400, Word: "bad"}
	missing = api.Answer{Status: 404, Word: "missing"}
	over    = api.Answer{Status: 429, Word: "quota"}
	failed  = api.Answer{Status: 500, Word: "failed"}
	full    = api.Answer{Status: 507, Word: "full"}
)

// zeros is the head of an empty list.
var zeros = strings.Repeat("\x00", 32)

func eight(n uint64) string {
	return string(binary.BigEndian.AppendUint64(nil, n))
}

// token is the token of two numbers.
func token(n, draw uint64) string {
	return base64.RawURLEncoding.EncodeToString([]byte(eight(n) + eight(draw)))
}

// key is that of a tenant's record of a letter.
func key(tenant, letter string, behind ...string) string {
	return "\x02" + tenant + "\x00\x02" + letter + "\x00" + strings.Join(behind, "")
}

func textPart(s string) string { return "\x02" + s + "\x00" }

func numberPart(n uint64) string { return "\x01" + eight(n) }

func ledgerKey(tenant string) string { return key(tenant, "l") }

func sessionKey(tenant, token string) string { return key(tenant, "s", textPart(token)) }

func entryKey(tenant string, n uint64) string { return key(tenant, "a", numberPart(n)) }

// measured is how many bytes a text has, and these.
func measured(s string) string {
	return string(binary.AppendUvarint(nil, uint64(len(s)))) + s
}

func sessionValue(s api.Session) string {
	return measured(s.User) + measured(s.Data) + eight(s.Expires)
}

func ledgerValue(next, entries uint64, head string) string {
	return eight(next) + eight(entries) + head
}

// textOf is an entry's text.
func textOf(e api.Entry) string {
	b := binary.AppendUvarint(nil, uint64(e.Number))
	b = binary.AppendUvarint(b, uint64(e.Kind))
	b = binary.AppendUvarint(b, e.Tick)
	return string(b) + measured(e.Subject)
}

// headOf is the head of a list.
func headOf(l []api.Entry) string {
	head := zeros
	for _, e := range l {
		s := textOf(e)
		sum := sha256.Sum256([]byte(head + eight(uint64(len(s))) + s))
		head = string(sum[:])
	}
	return head
}

// recordsOf is what should lie of a tenant that has these sessions and entries, by the chapter of records.
func recordsOf(tenant string, sessions []api.Session, entries []api.Entry, next int) []api.Pair {
	var l []api.Pair
	for _, s := range sessions {
		l = append(l,
			api.Pair{Key: sessionKey(tenant, s.Token), Value: sessionValue(s)},
			api.Pair{Key: key(tenant, "u", textPart(s.User), textPart(s.Token))},
			api.Pair{Key: key(tenant, "e", numberPart(s.Expires), textPart(s.Token))})
	}
	for _, e := range entries {
		l = append(l, api.Pair{Key: entryKey(tenant, uint64(e.Number)), Value: textOf(e)})
	}
	if len(entries) > 0 {
		l = append(l, api.Pair{Key: ledgerKey(tenant), Value: ledgerValue(uint64(next), uint64(len(entries)), headOf(entries))})
	}
	sort.Slice(l, func(i, j int) bool { return l[i].Key < l[j].Key })
	return l
}

// all is what lies in an engine.
func all(d *lsm.DB) []api.Pair {
	var l []api.Pair
	for k, v := range d.Scan("", "", d.Info().Seq) {
		l = append(l, api.Pair{Key: k, Value: v})
	}
	return l
}

// small is options with which little is laid down and merged.
func small() api.Options {
	return api.Options{Shape: api.Shape{Block: 256, Restart: 4, Bits: 8}, Mem: 3000, Zero: 2, Base: 4000, Fan: 3}
}

func open(t *testing.T, f *vfs.FS) *lsm.DB {
	t.Helper()
	d, e := lsm.Open(f, small())
	if e != api.OK {
		t.Fatal("Open", e)
	}
	return d
}

// fresh is an engine on a disk with room.
func fresh(t *testing.T) *lsm.DB {
	t.Helper()
	f, _ := vfs.New(api.MaxDisk)
	return open(t, f)
}

// write writes pairs as they are.
func write(t *testing.T, d *lsm.DB, l ...api.Pair) {
	t.Helper()
	for _, p := range l {
		if _, e := d.Write([]api.Write{{Key: p.Key, Value: p.Value}}); e != api.OK {
			t.Fatal("Write", e)
		}
	}
}

// some is tenants with these quotas, whose names do not rise.
func some(quotas ...int) []api.Tenant {
	names := []string{"b", "a", "a-", "acme", "0"}
	var l []api.Tenant
	for i, n := range quotas {
		l = append(l, api.Tenant{Name: names[i], Key: "k" + names[i], Quota: n})
	}
	return l
}

// create is a call of tenant 0.
func create(user string, ttl int, draw uint64) api.Call {
	return api.Call{Kind: api.CallCreate, User: user, Data: "x", TTL: ttl, Draw: draw}
}

// bench is an engine, and the model that it is held against.
type bench struct {
	t     *testing.T
	l     []api.Tenant
	d     *lsm.DB
	w     *model.World
	swept uint64 // up to which tick
}

func newBench(t *testing.T, quotas ...int) *bench {
	t.Helper()
	return benchOn(t, fresh(t), quotas...)
}

func benchOn(t *testing.T, d *lsm.DB, quotas ...int) *bench {
	t.Helper()
	w, e := model.New(some(quotas...))
	if e != api.OK {
		t.Fatal("New", e)
	}
	return &bench{t: t, l: some(quotas...), d: d, w: w}
}

func told(c api.Call, now uint64) string {
	return fmt.Sprintf("%.200s at %d", fmt.Sprintf("%+v", c), now)
}

// do is a call that is done, held against the model: all that lies in the engine, too.
func (b *bench) do(c api.Call, now uint64) api.Answer {
	b.t.Helper()
	ahead := b.d.Info()
	a, e := svc.Do(b.d, b.l, c, now)
	want(b.t, told(c, now), e, api.OK)
	wantAnswer(b.t, told(c, now), a, b.w.Do(c, now))
	if !model.Mutates(c, a) {
		want(b.t, told(c, now)+": the engine", b.d.Info(), ahead)
	}
	b.check(now)
	return a
}

// create is a create of a tenant that must be told 201: its token.
func (b *bench) create(tenant int, user string, ttl int, now uint64) string {
	b.t.Helper()
	c := create(user, ttl, 7)
	c.Tenant = tenant
	a := b.do(c, now)
	if a.Status != 201 {
		b.t.Fatalf("create: %+v", a)
	}
	return a.Token
}

// check is lies, where no transaction waits for its commit.
func (b *bench) check(now uint64) {
	b.t.Helper()
	b.lies(now)
	want(b.t, "what is kept", b.d.Info().Oldest, b.d.Info().Seq)
}

// lies holds all that lies in the engine against the model.
func (b *bench) lies(now uint64) {
	b.t.Helper()
	var should []api.Pair
	for i, t := range b.l {
		should = append(should, recordsOf(t.Name, b.w.Live(i, b.swept), b.w.Entries(i), b.w.Next(i))...)
	}
	sort.Slice(should, func(i, j int) bool { return should[i].Key < should[j].Key })
	got := all(b.d)
	want(b.t, "what lies in the engine", got, should)
	want(b.t, "Agree", record.Agree(got), api.OK)
	for i := range b.l {
		b.checkTold(i, now)
	}
}

// checkTold holds what is told of a tenant against the model.
func (b *bench) checkTold(i int, now uint64) {
	b.t.Helper()
	s, e := svc.Live(b.d, b.l[i].Name, now)
	want(b.t, "Live", e, api.OK)
	want(b.t, "Live", plainList(s), plainList(b.w.Live(i, now)))
	n, e := svc.Entries(b.d, b.l[i].Name)
	want(b.t, "Entries", e, api.OK)
	want(b.t, "Entries", plainList(n), plainList(b.w.Entries(i)))
}

// hexHead is a head in digits.
func hexHead(l []api.Entry) string {
	return hex.EncodeToString([]byte(headOf(l)))
}

// prepare is a call that must be prepared.
func prepare(t *testing.T, d *lsm.DB, l []api.Tenant, c api.Call, now uint64) *svc.Op {
	t.Helper()
	o, e := svc.Prepare(d, l, c, now)
	if e != api.OK || o == nil {
		t.Fatal("Prepare", told(c, now), e)
	}
	return o
}
