package cred_test

import (
	"crypto/hmac"
	"crypto/sha256"
	"encoding/base64"
	"encoding/binary"
	"encoding/hex"
	"regexp"
	"strconv"
	"strings"
	"testing"

	"atrium/api"
	"atrium/cred"
)

// want fails the test, if what was told is not what should be.
func want[T comparable](t *testing.T, what string, got, should T) {
	t.Helper()
	if got != should {
		t.Errorf("%s: %v, not %v", what, got, should)
	}
}

// short is bytes that may be shown.
func short(s string) string {
	if len(s) > 200 {
		return strconv.Quote(s[:200]) + " .. of " + strconv.Itoa(len(s))
	}
	return strconv.Quote(s)
}

// one is a text of one byte.
func one(b int) string {
	return string([]byte{byte(b)})
}

// nameBytes is the bytes of Names, written out.
const nameBytes = "abcdefghijklmnopqrstuvwxyz0123456789-"

// many is so many tenants that may be.
func many(n int) []api.Tenant {
	var l []api.Tenant
	for i := range n {
		l = append(l, api.Tenant{Name: "t" + strconv.Itoa(i), Key: "key" + strconv.Itoa(i), Quota: i})
	}
	return l
}

var secondName = regexp.MustCompile(`^[a-z0-9-]{1,32}$`)

// second is what the chapter says of a tenant, told by the library: whether it may be, and its credential.
func second(t api.Tenant) (string, bool) {
	if !secondName.MatchString(t.Name) || len(t.Key) == 0 || len(t.Key) > 64 || t.Quota < 0 || t.Quota > 1048576 {
		return "", false
	}
	h := hmac.New(sha256.New, []byte(t.Key))
	h.Write([]byte("tenant:" + t.Name))
	return t.Name + "." + hex.EncodeToString(h.Sum(nil)), true
}

// secondList is whether the chapter lets tenants be.
func secondList(l []api.Tenant) bool {
	for i, t := range l {
		if _, may := second(t); !may {
			return false
		}
		for _, u := range l[:i] {
			if u.Name == t.Name {
				return false
			}
		}
	}
	return len(l) >= 1 && len(l) <= 16
}

// secondPlace is whose credential a text is: each tenant's is looked at.
func secondPlace(l []api.Tenant, credential string) (int, api.Errno) {
	if !secondList(l) {
		return 0, api.ErrArg
	}
	for i, t := range l {
		if s, _ := second(t); s == credential {
			return i, api.OK
		}
	}
	return 0, api.ErrCred
}

// mint is a tenant's credential, which it has.
func mint(t *testing.T, x api.Tenant) string {
	t.Helper()
	s, e := cred.Mint(x)
	if e != api.OK {
		t.Fatalf("Mint of %+v: %d", x, e)
	}
	return s
}

// wantTenant is whether a tenant may be: alone, and by its credential.
func wantTenant(t *testing.T, x api.Tenant, may bool) {
	t.Helper()
	should, is := second(x)
	want(t, "the second telling of "+short(x.Name), is, may)
	s, e := cred.Mint(x)
	check := cred.Check([]api.Tenant{x})
	if !may {
		if s != "" || e != api.ErrArg || check != api.ErrArg {
			t.Errorf("%+v: Mint %s, %d; Check %d", x, short(s), e, check)
		}
		return
	}
	if s != should || e != api.OK || check != api.OK {
		t.Errorf("%+v: Mint %s, %d, not %s; Check %d", x, short(s), e, should, check)
	}
	wantPlace(t, []api.Tenant{x}, s, 0)
}

// wantPlace is that a text is the credential of one of a list.
func wantPlace(t *testing.T, l []api.Tenant, credential string, place int) {
	t.Helper()
	if i, e := cred.Verify(l, credential); i != place || e != api.OK {
		t.Errorf("Verify of %s: %d, %d, not %d", short(credential), i, e, place)
	}
	if i, e := cred.Who(l, []string{"Bearer " + credential}); i != place || e != api.OK {
		t.Errorf("Who of %s: %d, %d, not %d", short(credential), i, e, place)
	}
}

// wantRefused is what Verify tells of a text that is nobody's, or of a list that may not be, and Who with it.
func wantRefused(t *testing.T, l []api.Tenant, credential string, should api.Errno) {
	t.Helper()
	if i, e := cred.Verify(l, credential); i != 0 || e != should {
		t.Errorf("Verify of %s: %d, %d, not %d", short(credential), i, e, should)
	}
	if i, e := cred.Who(l, []string{"Bearer " + credential}); i != 0 || e != should {
		t.Errorf("Who of %s: %d, %d, not %d", short(credential), i, e, should)
	}
}

// wantBearer is what Bearer tells of a value that has a credential.
func wantBearer(t *testing.T, value, should string) {
	t.Helper()
	if s, e := cred.Bearer(value); s != should || e != api.OK {
		t.Errorf("Bearer of %s: %s, %d, not %s", short(value), short(s), e, short(should))
	}
}

// wantNoBearer is that a value has none.
func wantNoBearer(t *testing.T, value string) {
	t.Helper()
	if s, e := cred.Bearer(value); s != "" || e != api.ErrCred {
		t.Errorf("Bearer of %s: %s, %d", short(value), short(s), e)
	}
	if i, e := cred.Who(many(3), []string{value}); i != 0 || e != api.ErrCred {
		t.Errorf("Who of %s: %d, %d", short(value), i, e)
	}
}

// secondToken is the token of two numbers, told by the library.
func secondToken(n, draw uint64) string {
	b := binary.BigEndian.AppendUint64(binary.BigEndian.AppendUint64(nil, n), draw)
	return base64.RawURLEncoding.EncodeToString(b)
}

// secondNumbers is the two numbers of a token, told by the library; line ends, which it leaves out, are no letters.
func secondNumbers(s string) (n, draw uint64, is bool) {
	b, err := base64.RawURLEncoding.Strict().DecodeString(s)
	if err != nil || len(b) != 16 || strings.ContainsAny(s, "\r\n") {
		return 0, 0, false
	}
	return binary.BigEndian.Uint64(b), binary.BigEndian.Uint64(b[8:]), true
}

// wantToken is that a text is the token of two numbers, and they its.
func wantToken(t *testing.T, s string, n, draw uint64) {
	t.Helper()
	want(t, "Token", cred.Token(n, draw), s)
	if a, b, e := cred.ParseToken(s); a != n || b != draw || e != api.OK {
		t.Errorf("ParseToken of %s: %d, %d, %d, not %d, %d", short(s), a, b, e, n, draw)
	}
}

// wantNoToken is that a text is none.
func wantNoToken(t *testing.T, s string) {
	t.Helper()
	if a, b, e := cred.ParseToken(s); a != 0 || b != 0 || e != api.ErrToken {
		t.Errorf("ParseToken of %s: %d, %d, %d", short(s), a, b, e)
	}
}

// wantAsSecond holds ParseToken of a text against the library; whether it is a token.
func wantAsSecond(t *testing.T, s string) bool {
	t.Helper()
	n, draw, is := secondNumbers(s)
	if is {
		wantToken(t, s, n, draw)
	} else {
		wantNoToken(t, s)
	}
	return is
}

// turns tells each text that comes of one by a byte that is turned, put in or left out, or by cutting off.
func turns(s string, tell func(string)) {
	for i := range len(s) {
		tell(s[:i])
		tell(s[:i] + s[i+1:])
		if i > 0 {
			tell(s[i:])
		}
		for b := range 256 {
			if byte(b) != s[i] {
				tell(s[:i] + one(b) + s[i+1:])
			}
			tell(s[:i] + one(b) + s[i:])
		}
	}
	for b := range 256 {
		tell(s + one(b))
	}
}
