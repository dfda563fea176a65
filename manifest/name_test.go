package manifest_test

import (
	"math"
	"regexp"
	"strconv"
	"strings"
	"testing"

	"atrium/api"
	"atrium/manifest"
)

func TestName(t *testing.T) { // P11.4
	for number, name := range map[int]string{
		0: "manifest-000000", 7: "manifest-000007", 10: "manifest-000010", 99999: "manifest-099999", 100000: "manifest-100000", 999999: "manifest-999999",
		1000000: "manifest-1000000", 1234567: "manifest-1234567", api.MaxNumber: "manifest-2147483647",
	} {
		want(t, "Name", manifest.Name(number), name)
		want(t, "Current", manifest.Current(number), name+"\n")
		n, ok := manifest.Number(name)
		want(t, "Number of "+name, n, number)
		want(t, "Number of "+name, ok, true)
		n, ok = manifest.Pointed(name + "\n")
		want(t, "Pointed of "+name, n, number)
		want(t, "Pointed of "+name, ok, true)
	}
	for _, number := range []int{-1, -7, -1000000, math.MinInt} {
		want(t, "below 0", manifest.Name(number), "")
		want(t, "below 0", manifest.Current(number), "")
	}
	want(t, "beyond MaxNumber", manifest.Name(api.MaxNumber+1), "manifest-2147483648")
	want(t, "the greatest", manifest.Name(math.MaxInt), "manifest-9223372036854775807")
	want(t, "beyond MaxNumber", manifest.Current(api.MaxNumber+1), "manifest-2147483648\n")
	want(t, "the greatest", manifest.Current(math.MaxInt), "manifest-9223372036854775807\n")
}

// noNames is texts that are no manifest's name.
func noNames() []string {
	return []string{
		"", "manifest", "manifest-", "manifest-0", "manifest-7", "manifest-00007", "manifest-99999", // fewer than six digits
		"manifest-0000000", "manifest-0000007", "manifest-0123456", "manifest-00000000000000000000000007", "manifest-02147483647", // noughts too many
		"manifest-2147483648", "manifest-9223372036854775807", "manifest-9223372036854775808", "manifest-18446744073709551623", "manifest-99999999999999999999999999", // too great
		"manifest-+00007", "manifest--00007", "manifest-+000007", "manifest--000007", "manifest-000-07", "-000007", "+000007", "-1",
		"manifest-00000a", "manifest-0x0007", "manifest-000_07", "manifest-0000.7", "manifest-0000e1", "manifest-00000 ", "manifest- 00007", "manifest-000007 ", " manifest-000007", "manifest-000007\x00", "\nmanifest-000007", "manifest-\n000007", "manifest-000007\r", "manifest-00000\n",
		"000007", "MANIFEST-000007", "Manifest-000007", "manifest000007", "manifest_000007", "manifest-manifest-000007", "wal-000007", "manifest-wal-000007", "manifestwal-000007", "table-000007", "xmanifest-000007", "manifest-000007.tmp", "current",
		"manifest-٠٠٠٠٠٧", "manifest-00000\xff",
	}
}

func TestNumberRefuses(t *testing.T) { // P11.4
	for _, name := range append(noNames(), "manifest-000007\n", "\n", "manifest-000007\n\n") {
		n, ok := manifest.Number(name)
		want(t, "Number of "+strconv.Quote(name), n, 0)
		want(t, "Number of "+strconv.Quote(name), ok, false)
	}
}

func TestPointedRefuses(t *testing.T) { // P11.4
	texts := []string{
		"", "\n", "\n\n", "manifest-000007", "manifest-000007\n\n", "manifest-000007\r\n", "manifest-000007\n ", "manifest-000007 \n", " manifest-000007\n", "\nmanifest-000007\n", "manifest-000007\nmanifest-000007\n", "manifest-000007\n\x00", "manifest-000007\x00\n", "manifest-000007\nx", "manifest-000007\r",
	}
	for _, name := range noNames() {
		texts = append(texts, name, name+"\n", name+"\n\n")
	}
	for _, text := range texts {
		n, ok := manifest.Pointed(text)
		want(t, "Pointed of "+strconv.Quote(text), n, 0)
		want(t, "Pointed of "+strconv.Quote(text), ok, false)
	}
}

func TestNumberOfJustTheNames(t *testing.T) { // P11.4: each text of these few signs is a name's, or none
	form := regexp.MustCompile(`^manifest-([0-9]{6}|[1-9][0-9]{6,9})$`)
	letters := "019-\nw"
	for size := range 8 {
		most := 1
		for range size {
			most *= len(letters)
		}
		for code := 0; code < most; code++ {
			var b strings.Builder
			b.WriteString("manifest-")
			for x, i := code, 0; i < size; i++ {
				b.WriteByte(letters[x%len(letters)])
				x /= len(letters)
			}
			name := b.String()
			n, ok := manifest.Number(name)
			if ok != form.MatchString(name) || ok && manifest.Name(n) != name || !ok && n != 0 {
				t.Fatal("Number of "+strconv.Quote(name), n, ok)
			}
			m, is := manifest.Pointed(name + "\n")
			if is != ok || m != n {
				t.Fatal("Pointed of "+strconv.Quote(name+"\n"), m, is)
			}
			if m, is := manifest.Pointed(name); is && manifest.Current(m) != name {
				t.Fatal("Pointed of "+strconv.Quote(name), m, is)
			}
		}
	}
}
