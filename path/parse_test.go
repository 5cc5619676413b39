package path

import (
	"fmt"
	"slices"
	"strings"
	"testing"

	"lagoon/api"
)

func TestPathsOfNames(t *testing.T) { // P19.1
	wantNames(t, "the root", "/")
	wantNames(t, "one name", "/a", "a")
	wantNames(t, "two", "/a/b", "a", "b")
	wantNames(t, "the same", "/a/a/a", "a", "a", "a")
	wantNames(t, "in their order", "/c/ab/b/ca", "c", "ab", "b", "ca")
	wantNames(t, "dots in names", "/.a/..b/.../c.", ".a", "..b", "...", "c.")
	wantNames(t, "spaces", "/ / a/b ", " ", " a", "b ")
	wantNames(t, "no escape", "/a\\/b", "a\\", "b")
	wantNames(t, "bytes that are no runes", "/\xff/\xc0\xaf", "\xff", "\xc0\xaf")
	wantNames(t, "what only looks like a slash", "/a\u2215b/\uff0f", "a\u2215b", "\uff0f")
	for _, name := range fineNames() {
		wantNames(t, "alone", "/"+name, name)
		wantNames(t, "ahead", "/"+name+"/x", name, "x")
		wantNames(t, "behind", "/x/"+name, "x", name)
		wantNames(t, "between", "/x/"+name+"/"+name+"/y", "x", name, name, "y")
	}
}

func TestWhatDoesNotBeginWithASlash(t *testing.T) { // P19.1
	for _, s := range []string{"", "a", ".", "..", "a/", "a/b", "./a", " /a", "\x00/a", "\x01", "\\a", "\u2215a", "a/b/c/d", "\xff/", "a\x011.2", "\x011.2/a"} {
		wantFault(t, "no slash ahead", s, api.EINVAL)
	}
}

// EINVAL of the whole stands ahead of ENAMETOOLONG of the whole.
func TestTheBeginningAheadOfTheLengths(t *testing.T) { // P19.1, P0.2
	for _, s := range []string{strings.Repeat("a", 1024), strings.Repeat("a", 1025), strings.Repeat("a", 1<<20), "a" + strings.Repeat("/a", 64), "a" + strings.Repeat("/a", 65), "a" + strings.Repeat("/", 65), "a" + strings.Repeat("/", 2000), " " + strings.Repeat("/a", 1000)} {
		wantFault(t, "no slash ahead", s, api.EINVAL)
	}
}

func TestEmptyNames(t *testing.T) { // P19.1
	for _, s := range []string{"//", "///", "/a/", "/a//", "/a//b", "//a", "//a/b", "///a", "/a///b", "/a/b/", "/a/b//", "//a//b//", "/ /", "/a\x011.2/", "/a\x011.2//b", "//a\x011.2"} {
		wantFault(t, "an empty name", s, api.EINVAL)
	}
	// Up to 64 of them are told by their first name, more by how many they are.
	for count := 2; count <= 64; count++ {
		wantFault(t, "slashes alone", strings.Repeat("/", count), api.EINVAL)
	}
	for count := 65; count <= 1026; count++ {
		wantFault(t, "slashes alone", strings.Repeat("/", count), api.ENAMETOOLONG)
	}
}

// pathOf gives a path of so many names and so many bytes.
func pathOf(names, size int) string {
	var b strings.Builder
	for i := range names {
		b.WriteString("/")
		share := (size - names) / names
		if i < (size-names)%names {
			share++
		}
		b.WriteString(strings.Repeat("n", share))
	}
	return b.String()
}

func TestHowLongAPathIs(t *testing.T) { // P19.1
	for _, names := range []int{16, 17, 20, 40, 63, 64} {
		for _, size := range []int{1022, 1023, 1024} {
			s := pathOf(names, size)
			if len(s) != size {
				t.Fatalf("%d names in %d bytes", names, len(s))
			}
			wantNames(t, fmt.Sprint(names, " names"), s, strings.Split(s, "/")[1:]...)
		}
		for _, size := range []int{1025, 1026, 2048} {
			wantFault(t, fmt.Sprint(names, " names"), pathOf(names, size), api.ENAMETOOLONG)
		}
	}
	for _, size := range []int{1024, 1025, 1 << 22} {
		wantFault(t, "one name", "/"+strings.Repeat("n", size), api.ENAMETOOLONG)
	}
	// Bytes are counted, not runes.
	runes := strings.Repeat("/"+strings.Repeat("é", 32), 15) + "/" + strings.Repeat("é", 24)
	wantNames(t, "1,024 bytes of runes", runes, strings.Split(runes, "/")[1:]...)
	wantFault(t, "1,025 bytes of runes", runes+"n", api.ENAMETOOLONG)
}

// The length counts slashes and suffixes, and what is not to be a name either.
func TestTheLengthOfTheWhole(t *testing.T) { // P19.1
	shown := strings.Repeat("n", 59) + "\x0112.3"
	fine := strings.Repeat("/"+shown[1:], 16)
	wantNames(t, "1,024 bytes of shown names", fine, slices.Repeat([]string{shown[1:]}, 16)...)
	wantFault(t, "a byte more", strings.Repeat("/"+shown[1:], 15)+"/"+shown, api.ENAMETOOLONG)
	for _, name := range append(wrongNames(), longNames()...) {
		ahead, behind, more := "/"+name, "/"+name, "/"+strings.Repeat("n", 60)
		for len(behind) < 1025 {
			ahead, behind = ahead+more, more+behind
		}
		wantFault(t, "a fault first, too long", ahead, api.ENAMETOOLONG)
		wantFault(t, "a fault last, too long", behind, api.ENAMETOOLONG)
	}
}

func TestHowManyNames(t *testing.T) { // P19.1
	for count := 1; count <= 64; count++ {
		wantNames(t, fmt.Sprint(count, " names"), strings.Repeat("/a", count), slices.Repeat([]string{"a"}, count)...)
		wantNames(t, fmt.Sprint(count, " shown names"), strings.Repeat("/a\x011.2", count), slices.Repeat([]string{"a\x011.2"}, count)...)
	}
	for count := 65; count <= 600; count++ {
		wantFault(t, fmt.Sprint(count, " names"), strings.Repeat("/a", count), api.ENAMETOOLONG)
	}
	// A slash more is a name more, if an empty one.
	wantFault(t, "63 names and a slash", strings.Repeat("/a", 63)+"/", api.EINVAL)
	wantFault(t, "64 names and a slash", strings.Repeat("/a", 64)+"/", api.ENAMETOOLONG)
	wantFault(t, "a slash and 63 names", "/"+strings.Repeat("/a", 63), api.EINVAL)
	wantFault(t, "a slash and 64 names", "/"+strings.Repeat("/a", 64), api.ENAMETOOLONG)
	wantFault(t, "a slash between 63", strings.Repeat("/a", 30)+"/"+strings.Repeat("/a", 33), api.EINVAL)
	wantFault(t, "a slash between 64", strings.Repeat("/a", 30)+"/"+strings.Repeat("/a", 34), api.ENAMETOOLONG)
}

// How many names there are stands ahead of what they are.
func TestTheCountAheadOfTheNames(t *testing.T) { // P19.1, P0.2
	for _, name := range append(wrongNames(), longNames()...) {
		if len(name) > 500 {
			continue
		}
		fault := plainFault(name)
		for _, place := range []int{0, 1, 31, 62, 63} {
			for count, want := range map[int]api.Errno{64: fault, 65: api.ENAMETOOLONG} {
				names := slices.Repeat([]string{"a"}, count)
				names[place] = name
				wantFault(t, fmt.Sprintf("%.9q at %d of %d", name, place, count), plainJoin(names), want)
			}
		}
	}
}

func TestHowLongANameIs(t *testing.T) { // P19.1
	for size := 1; size <= 130; size++ {
		name := strings.Repeat("n", size)
		want := parsed{names: []string{name}}
		if size > 64 {
			want = parsed{e: api.ENAMETOOLONG}
		}
		wantParse(t, "a name", "/"+name, want)
	}
	for _, name := range longNames() {
		wantFault(t, "alone", "/"+name, api.ENAMETOOLONG)
		if len(name) < 1000 {
			wantFault(t, "ahead", "/"+name+"/a", api.ENAMETOOLONG)
			wantFault(t, "behind", "/a/"+name, api.ENAMETOOLONG)
		}
	}
}

func TestWhatIsNoName(t *testing.T) { // P19.1
	for _, name := range wrongNames() {
		if name != "" {
			wantFault(t, "alone", "/"+name, api.EINVAL)
		}
		wantFault(t, "ahead", "/"+name+"/a", api.EINVAL)
		wantFault(t, "behind", "/a/"+name, api.EINVAL)
		wantFault(t, "between", "/a/"+name+"/b", api.EINVAL)
	}
	for b := range 256 {
		name := "a" + string([]byte{byte(b)}) + "b"
		want := parsed{names: []string{name}}
		switch b {
		case 0, 1:
			want = parsed{e: api.EINVAL}
		case '/':
			want = parsed{names: []string{"a", "b"}}
		}
		wantParse(t, fmt.Sprint("byte ", b), "/"+name, want)
	}
}

// A shown name may be longer than a name, if its own name isn't.
func TestShownNames(t *testing.T) { // P19.1
	for _, name := range shownNames() {
		wantNames(t, "alone", "/"+name, name)
		wantNames(t, "ahead", "/"+name+"/a", name, "a")
		wantNames(t, "behind", "/a/"+name, "a", name)
		wantNames(t, "twice", "/"+name+"/"+name, name, name)
	}
	for size := 1; size <= 70; size++ {
		name := strings.Repeat("n", size) + "\x011152921504606846976.63"
		want := parsed{names: []string{name}}
		if size > 64 {
			want = parsed{e: api.EINVAL} // no shown one, and a byte 1 is told ahead of the length
		}
		wantParse(t, "a shown name", "/"+name, want)
	}
	wantFault(t, "a slash in the suffix", "/a\x011/.2", api.EINVAL)
	wantFault(t, "a slash ahead of the suffix", "/a/\x011.2", api.EINVAL)
	wantFault(t, "a slash behind the suffix", "/a\x011.2/", api.EINVAL)
	wantNames(t, "a name behind the suffix", "/a\x011.2/1.2", "a\x011.2", "1.2")
}

// fault is a name with what is told of it.
type fault struct {
	name string
	e    api.Errno
}

func TestTheFirstNameWithAFault(t *testing.T) { // P19.1, P0.2
	long := strings.Repeat("n", 65)
	all := []fault{{"", api.EINVAL}, {".", api.EINVAL}, {"a\x00", api.EINVAL}, {"a\x01", api.EINVAL}, {long + "\x011.2", api.EINVAL}, {long, api.ENAMETOOLONG}, {long + "1.2", api.ENAMETOOLONG}}
	for _, first := range all {
		for _, second := range all {
			for _, form := range []string{"/%s/%s", "/a/%s/%s", "/%s/a/%s", "/%s/%s/a", "/a\x011.2/%s/b/c/%s/d"} {
				wantFault(t, "two faults", fmt.Sprintf(form, first.name, second.name), first.e)
			}
			wantFault(t, "a fault and an empty name at the end", "/"+first.name+"/"+second.name+"/", first.e)
		}
	}
	wantFault(t, "an empty name at the end alone", "/a/", api.EINVAL)
	wantFault(t, "a long one ahead of an empty one at the end", "/"+long+"/", api.ENAMETOOLONG)
	wantFault(t, "an empty one ahead of a long one", "//"+long, api.EINVAL)
}

// Each text of few letters is as the words say.
func TestAllShortTexts(t *testing.T) { // P19.1
	letters := "/a.1\x01\x00"
	texts := []string{""}
	for range 6 {
		var longer []string
		for _, s := range texts {
			wantParse(t, "short", s, plainParse(s))
			for i := range letters {
				longer = append(longer, s+letters[i:i+1])
			}
		}
		texts = longer
	}
	// The shortest shown name has five bytes.
	for _, s := range texts {
		wantParse(t, "short", s, plainParse(s))
	}
}

// Paths drawn of names of all sorts, sometimes a byte changed, put in or taken out.
func TestManyDraws(t *testing.T) { // P19.1, P19.2
	all := slices.Concat(fineNames(), shownNames(), fineNames(), shownNames(), wrongNames(), longNames())
	fine := 0
	for seed := range 30000 {
		n := noise(seed)
		list := all
		if seed%2 == 0 {
			list = slices.Concat(fineNames(), shownNames())
		}
		s := plainJoin(some(&n, list, n.below(5)))
		if seed%8 == 0 {
			s = plainJoin(some(&n, list, n.below(70)))
		}
		if at := n.below(len(s)); seed%3 == 0 {
			s = s[:at] + pick(&n, []string{"", "/", "//", "a", "1", ".", "\x01", "\x00"}) + s[at+n.below(2):]
		}
		want := plainParse(s)
		wantParse(t, fmt.Sprint("seed ", seed), s, want)
		if want.e == api.OK {
			fine++
			wantJoin(t, fmt.Sprint("seed ", seed), want.names, s)
		}
	}
	if fine < 10000 || fine > 25000 {
		t.Errorf("%d of the draws are paths", fine)
	}
}

func TestLongTexts(t *testing.T) { // P0.1
	for _, s := range []string{strings.Repeat("/", 1<<24), strings.Repeat("/a", 1<<23), "/" + strings.Repeat("\x01", 1<<24), "/a\x01" + strings.Repeat("1", 1<<24)} {
		wantFault(t, "long", s, api.ENAMETOOLONG)
		wantFault(t, "long, without its first byte", "x"+s[1:], api.EINVAL)
	}
	wantFault(t, "many digits", "/a\x01"+strings.Repeat("1", 1000)+".2", api.EINVAL)
	wantFault(t, "many digits of a node", "/a\x011."+strings.Repeat("1", 1000), api.EINVAL)
}
