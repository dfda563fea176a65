package audit_test

import (
	"crypto/sha256"
	"encoding/binary"
	"fmt"
	"reflect"
	"strings"
	"testing"

	"atrium/api"
	"atrium/audit"
	"atrium/lsm"
	"atrium/txn"
	"atrium/vfs"
)

// want fails the test, if what was told is not what should be.
func want[T any](t *testing.T, what string, got, should T) {
	t.Helper()
	if !reflect.DeepEqual(got, should) {
		t.Errorf("%s: %.400s, not %.400s", what, fmt.Sprintf("%+v", got), fmt.Sprintf("%+v", should))
	}
}

// zeros is the head of an empty list.
const zeros = "\x00\x00\x00\x00\x00\x00\x00\x00\x00\x00\x00\x00\x00\x00\x00\x00\x00\x00\x00\x00\x00\x00\x00\x00\x00\x00\x00\x00\x00\x00\x00\x00"

// empty is the ledger of a tenant that did nothing.
var empty = api.Ledger{Next: 1, Head: zeros}

func eight(n uint64) string {
	return string(binary.BigEndian.AppendUint64(nil, n))
}

// ledgerKey is where a tenant's ledger lies.
func ledgerKey(tenant string) string {
	return "\x02" + tenant + "\x00\x02l\x00"
}

// entryKey is where an entry lies.
func entryKey(tenant string, number uint64) string {
	return "\x02" + tenant + "\x00\x02a\x00\x01" + eight(number)
}

// ledgerValue is a ledger's bytes.
func ledgerValue(l api.Ledger) string {
	return eight(l.Next) + eight(l.Entries) + l.Head
}

// textOf is an entry's text.
func textOf(e api.Entry) string {
	b := binary.AppendUvarint(nil, uint64(e.Number))
	b = binary.AppendUvarint(b, uint64(e.Kind))
	b = binary.AppendUvarint(b, e.Tick)
	b = binary.AppendUvarint(b, uint64(len(e.Subject)))
	return string(b) + e.Subject
}

// chain is the head behind a text.
func chain(head, s string) string {
	sum := sha256.Sum256([]byte(head + eight(uint64(len(s))) + s))
	return string(sum[:])
}

// headOf is the chain of entries.
func headOf(l []api.Entry) string {
	head := zeros
	for _, e := range l {
		head = chain(head, textOf(e))
	}
	return head
}

// some is n entries that are unlike.
func some(n int) []api.Entry {
	var l []api.Entry
	for i := range n {
		l = append(l, api.Entry{Number: i + 1, Kind: 1 + i%9, Tick: uint64(7 * i), Subject: strings.Repeat("s", i%20)})
	}
	return l
}

// disk is a file system with room.
func disk() *vfs.FS {
	f, _ := vfs.New(api.MaxDisk)
	return f
}

// open is the engine of a file system.
func open(t *testing.T, f *vfs.FS) *lsm.DB {
	t.Helper()
	d, e := lsm.Open(f, api.Options{Shape: api.Shape{Block: 128, Restart: 4, Bits: 8}, Mem: 1 << 18, Zero: 2, Base: 2000, Fan: 3})
	if e != api.OK {
		t.Fatal("Open", e)
	}
	return d
}

func fresh(t *testing.T) *lsm.DB {
	t.Helper()
	return open(t, disk())
}

func begin(t *testing.T, d *lsm.DB) *txn.Txn {
	t.Helper()
	x, e := txn.Begin(d)
	if e != api.OK || x == nil {
		t.Fatal("Begin", e)
	}
	return x
}

func commit(t *testing.T, x *txn.Txn) {
	t.Helper()
	if _, e := x.Commit(); e != api.OK {
		t.Fatal("Commit", e)
	}
}

// put writes a key as it is.
func put(t *testing.T, x *txn.Txn, key, value string) {
	t.Helper()
	if e := x.Put(key, value); e != api.OK {
		t.Fatal("Put", e)
	}
}

// lay puts entries and a ledger under a tenant's keys, as they are.
func lay(t *testing.T, x *txn.Txn, tenant string, l []api.Entry, ledger api.Ledger) {
	t.Helper()
	for _, e := range l {
		put(t, x, entryKey(tenant, uint64(e.Number)), textOf(e))
	}
	put(t, x, ledgerKey(tenant), ledgerValue(ledger))
}

// add is an Append that must be told OK.
func add(t *testing.T, x *txn.Txn, tenant string, should api.Entry) {
	t.Helper()
	got, e := audit.Append(x, tenant, should.Kind, should.Tick, should.Subject)
	want(t, "Append", e, api.OK)
	want(t, "Append", got, should)
}

// wantLedger is what Ledger should tell.
func wantLedger(t *testing.T, x *txn.Txn, tenant string, should api.Ledger, fault api.Errno) {
	t.Helper()
	l, e := audit.Ledger(x, tenant)
	want(t, "Ledger of "+tenant, e, fault)
	want(t, "Ledger of "+tenant, l, should)
}

// wantList is what List should tell.
func wantList(t *testing.T, x *txn.Txn, tenant string, from, most int, should []api.Entry, fault api.Errno) {
	t.Helper()
	l, e := audit.List(x, tenant, from, most)
	what := fmt.Sprint("List of ", tenant, " from ", from, ", ", most, " at most")
	want(t, what, e, fault)
	if len(l) > 0 || len(should) > 0 {
		want(t, what, l, should)
	}
}

// wantWhole is that a tenant's list is one, and its ledger what it says.
func wantWhole(t *testing.T, x *txn.Txn, tenant string, l []api.Entry) {
	t.Helper()
	ledger, e := audit.Ledger(x, tenant)
	want(t, "Ledger", e, api.OK)
	want(t, "its Entries", ledger.Entries, uint64(len(l)))
	want(t, "its Head", ledger.Head, headOf(l))
	wantList(t, x, tenant, 1, 1<<20, l, api.OK)
	want(t, "Check", audit.Check(x, tenant), api.OK)
	want(t, "Verify", audit.Verify(l, ledger.Head), true)
}

// wantRefused is that an Append is refused, and that nothing is written.
func wantRefused(t *testing.T, what string, x *txn.Txn, tenant string, kind int, subject string, fault api.Errno) {
	t.Helper()
	ahead := x.Writes()
	got, e := audit.Append(x, tenant, kind, 7, subject)
	want(t, what, e, fault)
	want(t, what, got, api.Entry{})
	want(t, what+": writes", x.Writes(), ahead)
}
