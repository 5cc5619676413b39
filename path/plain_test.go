package path

import (
	"math/big"
	"regexp"
	"slices"
	"strings"
	"testing"

	"lagoon/api"
)

// What follows are the chapter's words, and those of the chapters below it, written down plainly, to hold the package against.

// parsed is what Parse answers.
type parsed struct {
	names []string
	e     api.Errno
}

func plainParse(s string) parsed {
	if s == "" || s[0] != '/' {
		return parsed{e: api.EINVAL}
	}
	if len(s) > 1024 || plainCount(s) > 64 {
		return parsed{e: api.ENAMETOOLONG}
	}
	if s == "/" {
		return parsed{}
	}
	var p parsed
	for rest := s; rest != ""; {
		name, _, _ := strings.Cut(rest[1:], "/")
		if e := plainFault(name); e != api.OK {
			return parsed{e: e}
		}
		p.names = append(p.names, name)
		rest = rest[1+len(name):]
	}
	return p
}

// plainCount gives one more than there are slashes behind the first one.
func plainCount(s string) int {
	if s == "/" {
		return 0
	}
	count := 1
	for _, b := range []byte(s[1:]) {
		if b == '/' {
			count++
		}
	}
	return count
}

func plainFault(name string) api.Errno {
	if name == "" {
		return api.EINVAL
	}
	if plainIsShown(name) {
		return api.OK
	}
	return plainName(name)
}

func plainName(s string) api.Errno {
	switch {
	case s == "" || s == "." || s == ".." || strings.ContainsAny(s, "\x00\x01/"):
		return api.EINVAL
	case len(s) > 64:
		return api.ENAMETOOLONG
	}
	return api.OK
}

// suffixed is a text with digits behind a mark, as an ID is written.
var suffixed = regexp.MustCompile(`(?s)^(.+)\x01(0|[1-9][0-9]*)\.(0|[1-9][0-9]*)$`)

// plainIsShown tells whether the text is a name and the suffix of an ID that may be.
func plainIsShown(s string) bool {
	parts := suffixed.FindStringSubmatch(s)
	if parts == nil || plainName(parts[1]) != api.OK {
		return false
	}
	time, _ := new(big.Int).SetString(parts[2], 10)
	node, _ := new(big.Int).SetString(parts[3], 10)
	return time.Sign() > 0 && time.Cmp(big.NewInt(1<<60)) <= 0 && node.Cmp(big.NewInt(63)) <= 0
}

func plainJoin(p []string) string {
	s := "/"
	for i, name := range p {
		if i > 0 {
			s += "/"
		}
		s += name
	}
	return s
}

func plainAbove(p, q []string) bool {
	for i, name := range p {
		if i >= len(q) || q[i] != name {
			return false
		}
	}
	return len(p) != len(q)
}

// The calls of a test.

func wantParse(t *testing.T, what, s string, want parsed) {
	t.Helper()
	names, e := Parse(s)
	if e != want.e || !slices.Equal(names, want.names) {
		t.Errorf("%s: Parse(%.100q), %d bytes = %.200q, %d; want %.200q, %d", what, s, len(s), names, e, want.names, want.e)
	}
}

// wantNames holds that the text is a path of these names.
func wantNames(t *testing.T, what, s string, names ...string) {
	t.Helper()
	wantParse(t, what, s, parsed{names: names})
}

// wantFault holds that the text is refused so.
func wantFault(t *testing.T, what, s string, e api.Errno) {
	t.Helper()
	wantParse(t, what, s, parsed{e: e})
}

func wantJoin(t *testing.T, what string, p []string, want string) {
	t.Helper()
	if got := Join(p); got != want {
		t.Errorf("%s: Join(%.200q) = %.200q, want %.200q", what, p, got, want)
	}
}

func wantFresh(t *testing.T, what string, want api.Errno, p ...string) {
	t.Helper()
	if got := Fresh(p); got != want {
		t.Errorf("%s: Fresh(%.200q) = %d, want %d", what, p, got, want)
	}
}

func wantAbove(t *testing.T, what string, p, q []string, want bool) {
	t.Helper()
	if got := Above(p, q); got != want {
		t.Errorf("%s: Above(%.200q, %.200q) = %v", what, p, q, got)
	}
}

// fineNames has what is a name, shownNames what is one with a suffix.
func fineNames() []string {
	return []string{"a", "b", "ab", "a b", " ", "...", ".a", "..a", "a.", "a..", "7.2", "1.2", "-1.0", "\\", "\x02", "\n", "a\nb", "\x7f", "\xff", "\xc0\xaf", "é", "∕", strings.Repeat(".", 64), strings.Repeat("n", 63), strings.Repeat("n", 64), strings.Repeat("é", 32)}
}

func shownNames() []string {
	return []string{"a\x011.2", "a\x011.0", "a\x017.63", "...\x0110.10", " \x013.1", "a.1\x015.0", "\xff\x012.0", "a\nb\x019.9", "a\x011152921504606846976.63", strings.Repeat("n", 59) + "\x017.63", strings.Repeat("n", 60) + "\x017.63", strings.Repeat("n", 64) + "\x011.0", strings.Repeat("é", 32) + "\x011152921504606846976.63"}
}

// wrongNames has what is neither, and no slash in it; EINVAL is its fault. longNames has what has too many bytes.
func wrongNames() []string {
	many := strings.Repeat("n", 65)
	return []string{
		"", ".", "..", "\x00", "a\x00", "\x00a", "a\x00b", "\x01", "a\x01", "\x01a", "a\x01b", "\x01\x01",
		"\x011.2", ".\x011.2", "..\x011.2", "\x00\x011.2", "a\x00\x011.2", "\x01\x011.2", "a\x01\x011.2", "a\x011.2\x011.2", many + "\x011.2",
		"a\x011", "a\x011.", "a\x01.2", "a\x01.", "a\x011.2.3", "a\x011.2 ", "a\x01 1.2", "a\x01+1.2", "a\x011.+2", "a\x0101.2", "a\x011.02", "a\x01-1.2", "a\x011.-0", "a\x01x.2", "a\x011.x", "a\x01\x61.2", "a\x011_0.2", "a\x010x1.2",
		"a\x010.0", "a\x010.2", "a\x011.64", "a\x011152921504606846977.0", "a\x0118446744073709551617.2", "a\x011.18446744073709551618", "a\x011.2\x00", "a\x011\x01.2",
		many + "\x00", "\x00" + many, many + "\x01", "\x01" + many,
	}
}

func longNames() []string {
	return []string{strings.Repeat("n", 65), strings.Repeat("é", 33), strings.Repeat("n", 64) + "1.2", strings.Repeat(".", 65), strings.Repeat(" ", 100), strings.Repeat("n", 1023)}
}

// noise gives numbers that hang on where it began alone.
type noise uint64

func (n *noise) below(limit int) int {
	*n = *n*6364136223846793005 + 1442695040888963407
	return int(*n>>33) % limit
}

// pick gives one of the list.
func pick[T any](n *noise, list []T) T { return list[n.below(len(list))] }

// some gives so many of the list, in any order.
func some(n *noise, list []string, count int) []string {
	var drawn []string
	for range count {
		drawn = append(drawn, pick(n, list))
	}
	return drawn
}
