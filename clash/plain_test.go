package clash

import (
	"fmt"
	"math"
	"math/big"
	"regexp"
	"slices"
	"strings"
	"testing"

	"lagoon/api"
)

// What follows are the chapter's words, written down plainly, to hold the package against.

func plainLess(a, b api.ID) bool {
	return a.Time < b.Time || a.Time == b.Time && a.Node < b.Node
}

func plainSuffix(id api.ID) string {
	return fmt.Sprintf("\x01%d.%d", id.Time, id.Node)
}

// plainShown holds each one against all others.
func plainShown(ids []api.ID, names []string) []string {
	var shown []string
	for i := range min(len(ids), len(names)) {
		text := names[i]
		for j := range min(len(ids), len(names)) {
			if names[j] == names[i] && (plainLess(ids[j], ids[i]) || ids[j] == ids[i] && j < i) {
				text = names[i] + plainSuffix(ids[i])
				break
			}
		}
		shown = append(shown, text)
	}
	return shown
}

func plainName(s string) bool {
	return len(s) >= 1 && len(s) <= 64 && !strings.ContainsAny(s, "\x00\x01/") && s != "." && s != ".."
}

// split is what Split answers.
type split struct {
	name string
	id   api.ID
	ok   bool
}

// suffixed is a text with digits behind a mark, as an ID is written.
var suffixed = regexp.MustCompile(`(?s)^(.+)\x01(0|[1-9][0-9]*)\.(0|[1-9][0-9]*)$`)

func plainSplit(shown string) split {
	parts := suffixed.FindStringSubmatch(shown)
	if parts == nil || !plainName(parts[1]) {
		return split{name: shown}
	}
	time, _ := new(big.Int).SetString(parts[2], 10)
	node, _ := new(big.Int).SetString(parts[3], 10)
	if time.Sign() == 0 || time.Cmp(big.NewInt(great)) > 0 || node.Cmp(big.NewInt(63)) > 0 {
		return split{name: shown}
	}
	return split{parts[1], api.ID{Time: time.Int64(), Node: int(node.Int64())}, true}
}

// The calls of a test.

const great = 1 << 60

func id(time int64, node int) api.ID { return api.ID{Time: time, Node: node} }

func wantShown(t *testing.T, what string, ids []api.ID, names []string, want ...string) {
	t.Helper()
	if got := Shown(ids, names); !slices.Equal(got, want) {
		t.Errorf("%s: Shown(%v, %.200q) = %.400q, want %.400q", what, ids, names, got, want)
	}
}

func wantSplit(t *testing.T, shown string, want split) {
	t.Helper()
	name, id, ok := Split(shown)
	if got := (split{name, id, ok}); got != want {
		t.Errorf("Split(%.100q), %d bytes = %.100q, %v, %v; want %.100q, %v, %v", shown, len(shown), name, id, ok, want.name, want.id, want.ok)
	}
}

// wantNone holds that the text can't be split.
func wantNone(t *testing.T, shown string) {
	t.Helper()
	wantSplit(t, shown, split{name: shown})
}

// edges has IDs at the edges of what there may be, and those beyond.
func edges() []api.ID {
	var ids []api.ID
	for _, time := range []int64{math.MinInt64, math.MinInt64 + 1, -great, -10, -1, 0, 1, 9, 10, great - 1, great, great + 1, math.MaxInt64} {
		for _, node := range []int{math.MinInt64, -64, -1, 0, 1, 9, 10, 62, 63, 64, math.MaxInt64} {
			ids = append(ids, id(time, node))
		}
	}
	return ids
}

func isValid(id api.ID) bool {
	return id.Time >= 1 && id.Time <= great && id.Node >= 0 && id.Node <= 63
}

// fineNames has names, those at the edges among them; wrongNames has what is none.
func fineNames() []string {
	return []string{"a", "b", "ab", "a b", " ", "...", ".a", "..a", "a.", "7.2", ".2", "7.", "-1.0", "\x02", "\n", "a\nb", "\x7f", "\xff", "\xc0\xaf", "é", strings.Repeat("n", 63), strings.Repeat("n", 64), strings.Repeat("é", 32)}
}

func wrongNames() []string {
	return []string{"", ".", "..", "/", "a/b", "/a", "a/", "\x00", "a\x00", "\x00a", strings.Repeat("n", 65), strings.Repeat("é", 33), strings.Repeat("n", 1<<20)}
}

// noise gives numbers that hang on where it began alone.
type noise uint64

func (n *noise) below(limit int) int {
	*n = *n*6364136223846793005 + 1442695040888963407
	return int(*n>>33) % limit
}

// pick gives one of the list.
func pick[T any](n *noise, list []T) T { return list[n.below(len(list))] }

// text gives some bytes of the letters.
func (n *noise) text(letters string, most int) string {
	var b strings.Builder
	for range n.below(most + 1) {
		b.WriteByte(letters[n.below(len(letters))])
	}
	return b.String()
}
