package cookie

import (
	"strconv"
	"strings"

	"atrium/api"
	"atrium/text"
)

// maxAge is the greatest MaxAge.
const maxAge = 1<<31 - 1

// part is what a Set-Cookie may say behind its pair: the word with which it begins, whether a cookie has it, what stands behind the word, and how that is put into a cookie.
type part struct {
	word string
	has  func(c api.Cookie) bool
	says func(c api.Cookie) string
	take func(c *api.Cookie, said string)
}

// parts is all of them, in their order.
func parts() []part {
	nothing := func(api.Cookie) string { return "" }
	return []part{
		{
			word: "Path=",
			has:  func(c api.Cookie) bool { return c.Path != "" },
			says: func(c api.Cookie) string { return c.Path },
			take: func(c *api.Cookie, said string) { c.Path = said },
		},
		{
			word: "Max-Age=",
			has:  func(c api.Cookie) bool { return c.HasAge },
			says: func(c api.Cookie) string { return strconv.Itoa(c.MaxAge) },
			take: func(c *api.Cookie, said string) {
				c.MaxAge, _ = text.Digits(said, maxAge)
				c.HasAge = true
			},
		},
		{
			word: "HttpOnly",
			has:  func(c api.Cookie) bool { return c.HttpOnly },
			says: nothing,
			take: func(c *api.Cookie, _ string) { c.HttpOnly = true },
		},
		{
			word: "Secure",
			has:  func(c api.Cookie) bool { return c.Secure },
			says: nothing,
			take: func(c *api.Cookie, _ string) { c.Secure = true },
		},
		{
			word: "SameSite=",
			has:  func(c api.Cookie) bool { return c.SameSite != "" },
			says: func(c api.Cookie) string { return c.SameSite },
			take: func(c *api.Cookie, said string) { c.SameSite = said },
		},
	}
}

// Set is a Set-Cookie field's value.
func Set(c api.Cookie) (string, api.Errno) {
	if !mayBe(c) {
		return "", api.ErrCookie
	}
	texts := []string{printPair(c.Name, c.Value)}
	for _, p := range parts() {
		if p.has(c) {
			texts = append(texts, p.word+p.says(c))
		}
	}
	return strings.Join(texts, between), api.OK
}

func mayBe(c api.Cookie) bool {
	switch {
	case !text.Token(c.Name), !isBare(c.Value), !isPath(c.Path):
		return false
	case c.MaxAge < 0, c.MaxAge > maxAge, c.MaxAge != 0 && !c.HasAge:
		return false
	}
	switch c.SameSite {
	case "", "Strict", "Lax", "None":
		return true
	}
	return false
}

func isPath(s string) bool {
	for i := range len(s) {
		if !isSeen(s[i]) || s[i] == ';' {
			return false
		}
	}
	return s == "" || s[0] == '/'
}

// ParseSet is the cookie that a Set-Cookie field's value says: what is read is it just if it is written so again.
func ParseSet(value string) (api.Cookie, api.Errno) {
	c := readSet(strings.Split(value, between))
	if again, e := Set(c); e != api.OK || again != value {
		return api.Cookie{}, api.ErrCookie
	}
	return c, api.OK
}

// readSet is the one cookie that may be written as these texts.
func readSet(texts []string) api.Cookie {
	pair, rest := readPair(texts[0]), texts[1:]
	c := api.Cookie{Name: pair.Key, Value: pair.Value}
	for _, p := range parts() {
		if len(rest) == 0 {
			break
		}
		if said, is := strings.CutPrefix(rest[0], p.word); is {
			p.take(&c, said)
			rest = rest[1:]
		}
	}
	return c
}
