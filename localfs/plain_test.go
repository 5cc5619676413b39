package localfs

import (
	"fmt"
	"maps"
	"slices"
	"strings"
	"testing"

	"lagoon/api"
	"lagoon/device"
)

// noise gives numbers that hang on the seed alone.
type noise uint64

func (n *noise) below(limit int) int {
	*n = *n*6364136223846793005 + 1442695040888963407
	return int(uint64(*n)>>33) % limit
}

func (n *noise) bytes(size int) []byte {
	b := make([]byte, size)
	for i := range b {
		b[i] = byte(1 + n.below(255))
	}
	return b
}

// to is the path of names between slashes.
func to(s string) []string {
	if s == "" {
		return nil
	}
	return strings.Split(s, "/")
}

// call is a call with its arguments.
type call struct {
	fn        string
	p, q      []string
	at, count int // at: also a size
	b         []byte
}

func (c call) String() string {
	return fmt.Sprintf("%s(%.40q, %.40q, %d, %d, %d bytes)", c.fn, c.p, c.q, c.at, c.count, len(c.b))
}

// answer is what a call gave: its error, and all else as a text.
type answer struct {
	e    api.Errno
	text string
}

// on makes the call.
func (c call) on(f *FS) answer {
	switch c.fn {
	case "Mkdir":
		return answer{e: f.Mkdir(c.p)}
	case "Create":
		return answer{e: f.Create(c.p)}
	case "Write":
		return answer{e: f.Write(c.p, c.at, c.b)}
	case "Truncate":
		return answer{e: f.Truncate(c.p, c.at)}
	case "Replace":
		return answer{e: f.Replace(c.p, c.b)}
	case "Remove":
		return answer{e: f.Remove(c.p)}
	case "Rename":
		return answer{e: f.Rename(c.p, c.q)}
	case "Read":
		b, e := f.Read(c.p, c.at, c.count)
		return answer{e, string(b)}
	case "List":
		l, e := f.List(c.p)
		return answer{e, fmt.Sprint(l)}
	case "Stat":
		s, e := f.Stat(c.p)
		return answer{e, fmt.Sprint(s)}
	}
	panic(c.fn)
}

// item is a file with its bytes, or a directory.
type item struct {
	dir   bool
	bytes string
}

// state is the chapter told plainly: what there is, by its path with slashes; the root's is empty.
type state map[string]item

func empty() state { return state{"": {dir: true}} }

func join(p []string) string { return strings.Join(p, "/") }

func (s state) has(p []string) bool {
	_, ok := s[join(p)]
	return ok
}

// names gives a directory's names in order.
func (s state) names(p []string) []string {
	var out []string
	for key := range s {
		if q := to(key); len(q) == len(p)+1 && slices.Equal(q[:len(p)], p) {
			out = append(out, q[len(p)])
		}
	}
	slices.Sort(out)
	return out
}

func plainFine(name string) api.Errno {
	if name == "" || name == "." || name == ".." || strings.ContainsAny(name, "\x00/") {
		return api.EINVAL
	}
	if len(name) > 64 {
		return api.ENAMETOOLONG
	}
	return api.OK
}

func (s state) pathError(p []string) api.Errno {
	if len(p) > 64 {
		return api.EINVAL
	}
	for _, name := range p {
		if e := plainFine(name); e != api.OK {
			return e
		}
	}
	for i := range p {
		if !s[join(p[:i])].dir {
			return api.ENOTDIR
		}
		if i < len(p)-1 && !s.has(p[:i+1]) {
			return api.ENOENT
		}
	}
	return api.OK
}

// plainCost is what a file of that size costs.
func plainCost(size int) int {
	blocks := (size + 511) / 512
	cost := 1 + blocks
	if blocks > 8 {
		cost++
	}
	if blocks > 72 {
		cost += 1 + (blocks-72+63)/64
	}
	return cost
}

func (s state) cost() int {
	cost, names := 0, map[string]int{}
	for key, x := range s {
		if key != "" {
			p := to(key)
			names[join(p[:len(p)-1])]++
		}
		if !x.dir {
			cost += plainCost(len(x.bytes))
		}
	}
	for key, x := range s {
		if x.dir {
			cost += 2 + (names[key]+3)/4
		}
	}
	return cost
}

// fits tells whether s may come behind before.
func (s state) fits(before state, capacity int) bool {
	for key, x := range s {
		if x.dir && len(s) > 2048 && len(s.names(to(key))) > 2048 {
			return false
		}
	}
	return s.cost() <= capacity || s.cost() <= before.cost()
}

// after gives what is behind the call, and what it answers; s stays as it is.
func (s state) after(c call, capacity int) (state, answer) {
	a := s.refusal(c)
	if a != api.OK {
		return s, c.none(a)
	}
	next := maps.Clone(s)
	text := next.do(c)
	if !next.fits(s, capacity) {
		return s, answer{e: api.ENOSPC}
	}
	return next, answer{text: text}
}

// none is the answer with that error.
func (c call) none(e api.Errno) answer {
	switch c.fn {
	case "List":
		return answer{e, "[]"}
	case "Stat":
		return answer{e, fmt.Sprint(api.Stat{})}
	}
	return answer{e: e}
}

// refusal gives the call's error of the table, but ENOSPC.
func (s state) refusal(c call) api.Errno {
	if e := s.pathError(c.p); e != api.OK {
		return e
	}
	x, there := s[join(c.p)]
	root := len(c.p) == 0
	switch {
	case c.fn == "Rename":
		return s.renameRefusal(c.p, c.q)
	case c.fn == "Mkdir" || c.fn == "Create":
		return first(there, api.EEXIST)
	case c.fn == "Write":
		return first(c.at < 0, api.EINVAL, !there, api.ENOENT, x.dir, api.EISDIR, c.at > 65536 || c.at+len(c.b) > 65536, api.EFBIG)
	case c.fn == "Truncate":
		return first(c.at < 0, api.EINVAL, !there, api.ENOENT, x.dir, api.EISDIR, c.at > 65536, api.EFBIG)
	case c.fn == "Replace":
		return first(x.dir, api.EISDIR, len(c.b) > 65536, api.EFBIG)
	case c.fn == "Read":
		return first(c.at < 0 || c.count < 0, api.EINVAL, !there, api.ENOENT, x.dir, api.EISDIR)
	case c.fn == "Remove":
		return first(root, api.EBUSY, !there, api.ENOENT, len(s.names(c.p)) > 0, api.ENOTEMPTY)
	case c.fn == "List":
		return first(!there, api.ENOENT, !x.dir, api.ENOTDIR)
	}
	return first(!there, api.ENOENT)
}

func (s state) renameRefusal(p, q []string) api.Errno {
	if e := first(len(p) == 0 || len(q) == 0, api.EBUSY, !s.has(p), api.ENOENT); e != api.OK {
		return e
	}
	if e := s.pathError(q); e != api.OK {
		return e
	}
	if slices.Equal(p, q) {
		return api.OK
	}
	x, y, there := s[join(p)], s[join(q)], s.has(q)
	below := strings.HasPrefix(join(q), join(p)+"/")
	return first(below, api.EINVAL, y.dir && !x.dir, api.EISDIR, there && x.dir && !y.dir, api.ENOTDIR, len(s.names(q)) > 0, api.ENOTEMPTY)
}

// first gives the error behind the first condition that holds.
func first(pairs ...any) api.Errno {
	for i := 0; i < len(pairs); i += 2 {
		if pairs[i].(bool) {
			return pairs[i+1].(api.Errno)
		}
	}
	return api.OK
}

// do changes s by a call that is not refused, and gives what it answers.
func (s state) do(c call) string {
	key := join(c.p)
	x := s[key]
	switch c.fn {
	case "Mkdir":
		s[key] = item{dir: true}
	case "Create":
		s[key] = item{}
	case "Write":
		if len(c.b) > 0 {
			s[key] = item{bytes: written(x.bytes, c.at, string(c.b))}
		}
	case "Truncate":
		s[key] = item{bytes: written(x.bytes, c.at, "")[:c.at]}
	case "Replace":
		s[key] = item{bytes: string(c.b)}
	case "Remove":
		delete(s, key)
	case "Rename":
		s.move(c.p, c.q)
	case "Read":
		from := min(c.at, len(x.bytes))
		return x.bytes[from : from+min(c.count, len(x.bytes)-from)]
	case "List":
		l := []api.Entry{}
		for _, name := range s.names(c.p) {
			y := s[join(append(slices.Clone(c.p), name))]
			l = append(l, api.Entry{Name: name, Dir: y.dir, Size: len(y.bytes)})
		}
		return fmt.Sprint(l)
	case "Stat":
		return fmt.Sprint(api.Stat{Dir: x.dir, Size: len(x.bytes)})
	}
	return ""
}

// written is the text with b from at on.
func written(text string, at int, b string) string {
	if len(text) < at+len(b) {
		text += strings.Repeat("\x00", at+len(b)-len(text))
	}
	return text[:at] + b + text[at+len(b):]
}

func (s state) move(p, q []string) {
	was := maps.Clone(s)
	for key := range was {
		if x := to(key); len(x) >= len(p) && slices.Equal(x[:len(p)], p) {
			delete(s, key)
		}
	}
	for key, y := range was {
		if x := to(key); len(x) >= len(p) && slices.Equal(x[:len(p)], p) {
			s[join(slices.Concat(q, x[len(p):]))] = y
		}
	}
}

// stateOf reads all of a file system.
func stateOf(t *testing.T, f *FS) state {
	t.Helper()
	s := state{}
	read(t, f, nil, s)
	return s
}

func read(t *testing.T, f *FS, p []string, s state) {
	t.Helper()
	stat, e := f.Stat(p)
	if e != api.OK {
		t.Fatalf("Stat(%q) = %d", p, e)
	}
	if !stat.Dir {
		b, e := f.Read(p, 0, 1<<20)
		if e != api.OK || len(b) != stat.Size {
			t.Fatalf("Read(%q) = %d bytes, %d, want %d", p, len(b), e, stat.Size)
		}
		s[join(p)] = item{bytes: string(b)}
		return
	}
	s[join(p)] = item{dir: true}
	list, e := f.List(p)
	if e != api.OK {
		t.Fatalf("List(%q) = %d", p, e)
	}
	for _, x := range list {
		read(t, f, append(slices.Clone(p), x.Name), s)
	}
}

// wantState holds all that the file system tells against s.
func wantState(t *testing.T, f *FS, want state) {
	t.Helper()
	got := stateOf(t, f)
	if f.Cost() != want.cost() {
		t.Errorf("Cost = %d, want %d", f.Cost(), want.cost())
	}
	if maps.Equal(got, want) {
		return
	}
	t.Errorf("there are %.60q", slices.Sorted(maps.Keys(got)))
	t.Errorf("want      %.60q", slices.Sorted(maps.Keys(want)))
	for key, x := range want {
		if y := got[key]; y != x {
			t.Errorf("%.60q: %v, %d bytes, want %v, %d bytes", key, y.dir, len(y.bytes), x.dir, len(x.bytes))
		}
	}
}

func made(t *testing.T, blocks int) (*device.Device, *FS) {
	t.Helper()
	d := device.New(blocks)
	if e := Mkfs(d); e != api.OK {
		t.Fatalf("Mkfs of %d blocks = %d", blocks, e)
	}
	return d, mounted(t, d)
}

func mounted(t *testing.T, d *device.Device) *FS {
	t.Helper()
	f, e := Mount(d)
	if e != api.OK || f == nil {
		t.Fatalf("Mount = %v, %d", f, e)
	}
	return f
}

// blocksOf is the least number of blocks with that capacity.
func blocksOf(capacity int) int { return 8 + 16*(capacity+2) }

// must makes the calls, each of which must be OK, and gives what is behind them.
func must(t *testing.T, f *FS, s state, calls ...call) state {
	t.Helper()
	for _, c := range calls {
		next, want := s.after(c, f.capacity)
		if want.e != api.OK {
			t.Fatalf("%v: the test itself is wrong: %d", c, want.e)
		}
		if got := c.on(f); got != want {
			t.Fatalf("%v = %d, %.60q, want OK, %.60q", c, got.e, got.text, want.text)
		}
		s = next
	}
	return s
}

func mkdir(p string) call           { return call{fn: "Mkdir", p: to(p)} }
func create(p string) call          { return call{fn: "Create", p: to(p)} }
func replace(p, b string) call      { return call{fn: "Replace", p: to(p), b: []byte(b)} }
func remove(p string) call          { return call{fn: "Remove", p: to(p)} }
func rename(p, q string) call       { return call{fn: "Rename", p: to(p), q: to(q)} }
func truncate(p string, n int) call { return call{fn: "Truncate", p: to(p), at: n} }
func list(p string) call            { return call{fn: "List", p: to(p)} }
func stat(p string) call            { return call{fn: "Stat", p: to(p)} }

func write(p string, at int, b string) call {
	return call{fn: "Write", p: to(p), at: at, b: []byte(b)}
}

func readAt(p string, at, count int) call {
	return call{fn: "Read", p: to(p), at: at, count: count}
}
