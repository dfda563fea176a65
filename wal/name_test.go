package wal_test

import (
	"math"
	"regexp"
	"strconv"
	"strings"
	"testing"

	"atrium/api"
	"atrium/wal"
)

func TestName(t *testing.T) { // P5.4
	for number, name := range map[int]string{
		0: "wal-000000", 7: "wal-000007", 10: "wal-000010", 99999: "wal-099999", 100000: "wal-100000", 999999: "wal-999999",
		1000000: "wal-1000000", 1234567: "wal-1234567", api.MaxNumber: "wal-2147483647",
	} {
		want(t, "Name", wal.Name(number), name)
		n, ok := wal.Number(name)
		want(t, "Number of "+name, n, number)
		want(t, "Number of "+name, ok, true)
	}
	want(t, "beyond MaxNumber", wal.Name(api.MaxNumber+1), "wal-2147483648")
	want(t, "the greatest", wal.Name(math.MaxInt), "wal-9223372036854775807")
	for _, number := range []int{-1, -7, -1000000, math.MinInt} {
		want(t, "below 0", wal.Name(number), "")
	}
}

func TestNumberRefuses(t *testing.T) { // P5.4
	for _, name := range []string{
		"", "wal", "wal-", "wal-0", "wal-7", "wal-00007", "wal-99999", // fewer than six digits
		"wal-0000000", "wal-0000007", "wal-0123456", "wal-00000000000000000000000007", "wal-02147483647", // noughts too many
		"wal-2147483648", "wal-9223372036854775807", "wal-9223372036854775808", "wal-18446744073709551623", "wal-99999999999999999999999999", // too great
		"wal-+00007", "wal--00007", "wal-+000007", "wal--000007", "wal-000-07", "-000007", "+000007", "-1",
		"wal-00000a", "wal-0x0007", "wal-000_07", "wal-0000.7", "wal-0000e1", "wal-00000 ", "wal- 00007", "wal-000007 ", " wal-000007", "wal-000007\n", "wal-000007\x00",
		"000007", "WAL-000007", "Wal-000007", "wal000007", "wal_000007", "wal-wal-000007", "manifest-000007", "table-000007", "xwal-000007", "wal-000007.tmp",
		"wal-٠٠٠٠٠٧", "wal-00000\xff",
	} {
		n, ok := wal.Number(name)
		want(t, "Number of "+strconv.Quote(name), n, 0)
		want(t, "Number of "+strconv.Quote(name), ok, false)
	}
}

func TestNumberOfJustTheNames(t *testing.T) { // P5.4: each text of these few signs is a name's, or none
	form := regexp.MustCompile(`^wal-([0-9]{6}|[1-9][0-9]{6,9})$`)
	letters := "019-+w"
	for size := range 8 {
		most := 1
		for range size {
			most *= len(letters)
		}
		for code := 0; code < most; code++ {
			var b strings.Builder
			b.WriteString("wal-")
			for x, i := code, 0; i < size; i++ {
				b.WriteByte(letters[x%len(letters)])
				x /= len(letters)
			}
			name := b.String()
			n, ok := wal.Number(name)
			if ok != form.MatchString(name) || ok && wal.Name(n) != name || !ok && n != 0 {
				t.Fatal("Number of "+name, n, ok)
			}
		}
	}
}
