package clash

import (
	"strings"
	"testing"

	"lagoon/api"
)

func TestSplit(t *testing.T) { // P16.1
	for shown, want := range map[string]split{
		"a\x017.2":                          {"a", id(7, 2), true},
		"a\x011.0":                          {"a", id(1, 0), true},
		"a\x0110.10":                        {"a", id(10, 10), true},
		"a\x01100.63":                       {"a", id(100, 63), true},
		"a\x011152921504606846976.63":       {"a", id(great, 63), true},
		"a\x011152921504606846975.0":        {"a", id(great-1, 0), true},
		"long name.txt\x01123456.7":         {"long name.txt", id(123456, 7), true},
		"7.2\x017.2":                        {"7.2", id(7, 2), true},
		"...\x017.2":                        {"...", id(7, 2), true},
		"a\nb\x017.2":                       {"a\nb", id(7, 2), true},
		"\xff\x017.2":                       {"\xff", id(7, 2), true},
		strings.Repeat("n", 64) + "\x017.2": {strings.Repeat("n", 64), id(7, 2), true},
	} {
		wantSplit(t, shown, want)
	}
}

// Each name with each ID: split again, just if the ID is Valid and the name is one.
func TestSplitOfWhatShownGives(t *testing.T) { // P16.1
	for _, name := range fineNames() {
		for _, one := range edges() {
			shown := Shown([]api.ID{one, one}, []string{name, name})
			wantNone(t, shown[0])
			if isValid(one) {
				wantSplit(t, shown[1], split{name, one, true})
			} else {
				wantNone(t, shown[1])
			}
		}
	}
	for _, name := range append(wrongNames(), "\x01", "a\x01", "\x01a", "a\x01b", "a\x017.2") {
		shown := Shown([]api.ID{id(7, 2), id(7, 2)}, []string{name, name})
		wantNone(t, shown[1])
	}
	for time := range int64(2000) {
		wantSplit(t, "a"+Suffix(id(time+1, int(time%64))), split{"a", id(time+1, int(time%64)), true})
	}
	for shift := range 60 {
		for _, time := range []int64{1<<shift - 1, 1 << shift, 1<<shift + 1} {
			if time > 0 {
				wantSplit(t, "a"+Suffix(id(time, shift)), split{"a", id(time, shift), true})
			}
		}
	}
}

// What Shown can't have given of a name that is one and a Valid ID, by what is wrong with it.
func TestSplitOfWhatIsNone(t *testing.T) { // P16.1
	for what, texts := range map[string][]string{
		"empty":                {""},
		"a name alone":         append(fineNames(), "a7.2", "a.7.2", "a 7.2", "a\x027.2", "a\\x017.2"),
		"no name alone":        wrongNames(),
		"no name":              {"\x017.2", ".\x017.2", "..\x017.2", "/\x017.2", "a/b\x017.2", "\x00\x017.2", "a\x00\x017.2", strings.Repeat("n", 65) + "\x017.2", strings.Repeat("n", 1<<20) + "\x017.2"},
		"the mark alone":       {"\x01", "a\x01", "\x01a", "a\x01b"},
		"two marks":            {"a\x01\x017.2", "a\x017.2\x01", "a\x017.2\x017.2", "a\x017\x01.2", "a\x017.\x012", "\x01a\x017.2", "a\x01b\x017.2", "\x01\x01", "\x01\x017.2", "a\x011.0\x01\x017.2"},
		"no dot":               {"a\x017", "a\x0172", "a\x017,2", "a\x017 2", "a\x017:2", "a\x017\x022"},
		"two dots":             {"a\x017.2.", "a\x017..2", "a\x01.7.2", "a\x017.2.0", "a\x017.2.3", "a\x01..", "a\x017.0.2"},
		"a dot alone":          {"a\x01.", "a\x01.2", "a\x017."},
		"a nought ahead":       {"a\x0107.2", "a\x017.02", "a\x0100.0", "a\x017.00", "a\x01007.2", "a\x01000000000000000000000007.2", "a\x017.0000000000000000000000002"},
		"a sign":               {"a\x01+7.2", "a\x017.+2", "a\x01-7.2", "a\x017.-2", "a\x017.-0", "a\x017.+0", "a\x01-0.2", "a\x01--7.2", "a\x01-.2", "a\x017.-"},
		"no digits":            {"a\x01x.2", "a\x017.x", "a\x017x.2", "a\x01x7.2", "a\x017.2x", "a\x017.x2", "a\x01b.c", "a\x01 7.2", "a\x017 .2", "a\x017. 2", "a\x017.2 ", "a\x017.2\n", "a\x017.2\x00", "a\x017.2/", "a\x01\n7.2"},
		"digits of other ways": {"a\x010x7.2", "a\x017.0x2", "a\x010b1.2", "a\x010o7.2", "a\x011_0.2", "a\x017.1_0", "a\x017e1.2", "a\x017.2e0", "a\x01A.2", "a\x01\u0667.2", "a\x017.\u0662", "a\x01\uff17.2"},
		"a time that is 0":     {"a\x010.0", "a\x010.1", "a\x010.2", "a\x010.63"},
		"a time too great":     {"a\x011152921504606846977.2", "a\x019223372036854775807.2", "a\x019223372036854775808.2", "a\x0118446744073709551616.2", "a\x0118446744073709551623.2"},
		"a node too great":     {"a\x017.64", "a\x017.65", "a\x017.100", "a\x017.630", "a\x017.9223372036854775807", "a\x017.9223372036854775808", "a\x017.18446744073709551618"},
		"too many digits":      {"a\x01" + strings.Repeat("7", 100) + ".2", "a\x017." + strings.Repeat("2", 100), "a\x01" + strings.Repeat("9", 1<<20) + ".2", "a\x017." + strings.Repeat("9", 1<<20), "a\x017.2" + strings.Repeat("0", 30), "a\x01" + strings.Repeat("0", 1<<20) + "7.2"},
		"the other way round":  {"7.2\x01a", "\x017.2a", "2.7\x01"},
	} {
		for _, shown := range texts {
			name, id, ok := Split(shown)
			if name != shown || id != (api.ID{}) || ok {
				t.Errorf("%s: Split(%.60q), %d bytes = %.60q, %v, %v", what, shown, len(shown), name, id, ok)
			}
			if len(shown) < 1000 && plainSplit(shown).ok {
				t.Errorf("%s: %.60q should be split", what, shown)
			}
		}
	}
}

// Each byte in each place of something that can be split.
func TestSplitWithEachByte(t *testing.T) { // P16.1, P0.1
	const shown = "ab\x0117.42"
	for at := range len(shown) {
		for x := range 256 {
			for _, text := range []string{
				shown[:at] + string([]byte{byte(x)}) + shown[at+1:],
				shown[:at] + string([]byte{byte(x)}) + shown[at:],
				shown[:at] + shown[at+1:],
				shown[:at],
				shown + string([]byte{byte(x)}),
			} {
				wantSplit(t, text, plainSplit(text))
			}
		}
	}
}

// Each short text of the bytes that matter, and many longer ones.
func TestSplitOfAllKindsOfTexts(t *testing.T) { // P16.1, P0.1
	const letters = "a\x01.017-/"
	all := []string{""}
	for range 5 {
		for _, front := range all {
			wantSplit(t, front, plainSplit(front))
		}
		var longer []string
		for _, front := range all {
			for i := range len(letters) {
				longer = append(longer, front+letters[i:i+1])
			}
		}
		all = longer
	}
	n := noise(7)
	for range 30000 {
		text := n.text("ab.", 3) + "\x01" + n.text("0123456789", 21) + "." + n.text("0123456", 3)
		if n.below(4) == 0 {
			text = n.text("a\x01.+-_ 0123456789", 30)
		}
		wantSplit(t, text, plainSplit(text))
	}
}
