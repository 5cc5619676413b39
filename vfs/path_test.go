package vfs

import (
	"strings"
	"testing"

	"lagoon/api"
)

var (
	name65 = strings.Repeat("n", 65)
	long   = strings.Repeat("/x", 513) // 1,026 bytes
	deep   = strings.Repeat("/x", 65)
)

// noPaths are paths that tell an error, whatever function goes by them, in a machine as clashPair has it.
func noPaths() map[api.Errno][]string {
	return map[api.Errno][]string{
		api.EINVAL: {
			"", "g", "d/f", " /g", "//", "/d/", "/d//f", "//d", "/.", "/..", "/d/..", "/d/./f", "/g/",
			"/\x00", "/d\x00", "/d\x01", "/\x01", "/\x016.1", "/g\x016", "/g\x016.1.1", "/g\x010.1", "/g\x016.64", "/g\x01-6.1", "/g\x0106.1",
			"/no/", "/no/.", "/g/.", "/g/\x00", "x" + long, "/x\x00/" + name65, "/no//x",
		},
		api.ENAMETOOLONG: {long, deep, "/" + name65, "/d/" + name65, "/" + name65 + "/\x00", "/no/" + name65, "/g/" + name65, long + "/", strings.Repeat("/", 1025), strings.Repeat("//", 40)},
		api.ENOENT:       {"/no/x", "/no/x/y", "/d/no/x", "/d/e/no/x", "/g\x019.1/x", "/d\x019.3/x", "/d\x011.2/f", "/x\x016.3/x", "/D/f", "/d /f"},
		api.ENOTDIR:      {"/g/x", "/g/x/y", "/d/f/x", "/d/f/x/y", g1 + "/x", d3 + "/x/y", "/g/g\x019.1"},
	}
}

// byPath gives the calls that go by the path.
func byPath(s string) []api.Call {
	return []api.Call{
		open(s, 0), open(s, create|excl), open(s, create|trunc|writes|app), mkdir(s), rmdir(s), unlink(s), rename(s, "/new"), rename(s, "?"), rename(s, s), rename(s, "/"),
		rename("/d/f", s), rename("/d", s), rename("/d/e", s), rename(g1, s),
		readdir(s), stat(s), truncate(s, 1), truncate(s, -1), conflicts(s), resolve(s, 0), resolve(s, -1),
	}
}

func TestPathsThatLeadNowhere(t *testing.T) { // P21.2, P0.1, P0.2
	p := clashPair(t, "a machine")
	for e, paths := range noPaths() {
		for _, s := range paths {
			p.refuse(e, byPath(s)...)
		}
	}
	p.wantShape(clashShape).look()
}

// Of a path whose last name alone is not there.
func TestNothingThere(t *testing.T) { // P21.2
	p := clashPair(t, "a machine")
	for _, s := range []string{"/no", "/d/no", "/d/e/no", d3 + "/no", "/g\x019.1", "/d\x011.2", "/g\x015.2", "/D", "/d/g"} {
		p.refuse(api.ENOENT, open(s, 0), rmdir(s), unlink(s), rename(s, "/new"), rename(s, s), rename(s, "/"), rename(s, "?"), readdir(s), stat(s), truncate(s, 1), truncate(s, -1), truncate(s, 65537), conflicts(s), resolve(s, 0), resolve(s, -1))
	}
	p.wantShape(clashShape).look()
}

// The names that can't be made are just those that are shown apart: no others come through.
func TestNamesThatAreNotFresh(t *testing.T) { // P21.2
	p := clashPair(t, "a machine")
	for _, s := range []string{"/g\x019.1", "/new\x016.1", "/d/f\x013.2", d3 + "/x\x018.3", "/d\x011.2", "/" + strings.Repeat("n", 64) + "\x011152921504606846976.63"} {
		p.refuse(api.EINVAL, open(s, create), open(s, create|excl), mkdir(s), rename("/d/f", s), rename("/d/e", s), rename(g1, s))
	}
	p.wantShape(clashShape).look()
}

func TestTheRootsPath(t *testing.T) { // P21.3
	p := clashPair(t, "a machine")
	p.refuse(api.EISDIR, open("/", 0), open("/", create), open("/", trunc|writes), truncate("/", 0), truncate("/", 1), truncate("/", -1), truncate("/", 65537), conflicts("/"), resolve("/", 0), resolve("/", -1), unlink("/"))
	p.refuse(api.EEXIST, open("/", create|excl), mkdir("/"))
	p.refuse(api.EBUSY, rmdir("/"), rename("/", "/x"), rename("/", "/"), rename("/", "?"), rename("/", "/d"), rename("/d", "/"), rename("/g", "/"), rename("/d/f", "/"))
	p.pass(readdir("/"), stat("/"))
	empty := newPair(t, "an empty machine")
	empty.refuse(api.EISDIR, open("/", 0), truncate("/", 0), conflicts("/"), resolve("/", 0), unlink("/"))
	empty.refuse(api.EBUSY, rmdir("/"), rename("/", "/"))
}

func TestLongPaths(t *testing.T) { // P21.2
	p := newPair(t, "a machine")
	at := ""
	for range 63 {
		at += "/x"
		p.pass(mkdir(at))
	}
	p.pass(open(at+"/f", create), mkdir(at+"/x"), readdir(at+"/x"), rename(at+"/f", at+"/g"), stat(at+"/g"))
	p.refuse(api.ENAMETOOLONG, mkdir(at+"/x/x"), open(at+"/x/f", create), rename(at+"/g", at+"/x/g"))
	// What stands deeper than a path may go is made by moving what is above it.
	p.pass(mkdir("/y"), rename("/x", "/y/x"))
	p.refuse(api.ENAMETOOLONG, stat("/y"+at+"/x"))
	p.pass(readdir("/y"+at), rename("/y/x", "/x"), stat(at+"/x"))

	p = newPair(t, "long names")
	at = ""
	for range 15 {
		at += "/" + strings.Repeat("n", 64)
		p.pass(mkdir(at))
	}
	p.pass(open(at+"/"+strings.Repeat("f", 48), create)) // 1,024 bytes
	p.refuse(api.ENAMETOOLONG, open(at+"/"+strings.Repeat("f", 49), create), mkdir(at+"/"+strings.Repeat("f", 49)))
	p.look()
}

// Bytes of names are such as they are.
func TestStrangeNames(t *testing.T) { // P21.2
	p := newPair(t, "a machine")
	for _, name := range []string{" ", "...", ".x", "\\", "\xff\xfe", "\x02", "é", "日本", "a\nb", "~6.1", "-", "\x7f"} {
		p.pass(mkdir("/"+name), open("/"+name+"/"+name, create|excl), stat("/"+name), readdir("/"+name), rename("/"+name+"/"+name, "/"+name+"/x"))
	}
	p.look()
}
