package disk_test

import (
	"slices"
	"strconv"
	"strings"
	"testing"

	"matins/api"
	"matins/disk"
)

// The directories, and the endings of unit names.
var (
	places   = []string{"etc", "run", "lib"}
	suffixes = []string{".service", ".socket", ".timer", ".target"}
)

// noNames are no unit names.
var noNames = []string{
	"", ".", "a", "a.", ".service", "@.service", "@i.service", "a@b@c.service", "a.mount", "a.Service", "a.service ", " a.service", "a b.service", "é.service",
	"a.service\n", "a.service\x00", "\xff.service", "a%i.service", "a@", "service", "null", "a.service.d", "a.service.wants", "a.conf", "x.conf", strings.Repeat("x", 53) + ".service",
}

// tree returns the files that a text has, one a line: a path, and behind a > the
// link. Unit files have some Text.
func tree(text string) []api.File {
	var files []api.File
	for line := range strings.Lines(text) {
		path, link, _ := strings.Cut(strings.TrimSpace(line), " > ")
		if path == "" {
			continue
		}
		file := api.File{Path: path, Link: link}
		if link == "" {
			file.Text = "[Unit]\nDescription=" + path
		}
		files = append(files, file)
	}
	return files
}

// around are sound files with no path that a test has of its own.
var around = tree(`
	etc/around.service
	run/around.target > null
	lib/around@.timer.d/x.conf
	etc/around.target.wants/around.service > around.service
	lib/around.target.requires/around@i.service > around@.service`)

// checkFile checks whether a file may be there, alone and with others, wherever
// it stands among them.
func checkFile(t *testing.T, file api.File, want bool) {
	t.Helper()
	if got := disk.May([]api.File{file}); got != want {
		t.Errorf("May of %.300q with the link %.300q and %d bytes is %v", file.Path, file.Link, len(file.Text), got)
	}
	for i := range len(around) + 1 {
		if got := disk.May(slices.Insert(slices.Clone(around), i, file)); got != want {
			t.Errorf("May of %.300q with the link %.300q and %d bytes, with others, is %v", file.Path, file.Link, len(file.Text), got)
		}
	}
}

// checkNoFile checks that a path is refused, with whatever else.
func checkNoFile(t *testing.T, path string) {
	t.Helper()
	for _, link := range []string{"", "null", "b.service", "b@.service"} {
		checkFile(t, api.File{Path: path, Link: link}, false)
		checkFile(t, api.File{Path: path, Link: link, Text: "x"}, false)
	}
}

// P12.1: the directories.

func TestPlaces(t *testing.T) {
	if got := disk.Places(); !slices.Equal(got, []string{"etc", "run", "lib"}) {
		t.Errorf("Places() = %q", got)
	}
}

func TestPathsInEachPlace(t *testing.T) {
	for _, place := range places {
		for _, file := range tree("/a.service\n/a.service > null\n/a.service > b.service\n/a.service.d/x.conf\n/a.service.wants/b.timer > b.timer\n/a.service.requires/b.timer > b.timer") {
			file.Path = place + file.Path
			checkFile(t, file, true)
		}
	}
}

func TestPathsInNoPlace(t *testing.T) {
	for _, place := range []string{"", "usr", "Etc", "ETC", "et", "etcc", " etc", "etc ", "etc\x00", ".", "..", "a.service", "/etc", "./etc", "etc/etc", "etc/run", "etc/", "/", "lib/.", "étc"} {
		for _, rest := range []string{"", "/", "/a.service", "/a.service.d/x.conf", "/a.service.wants/b.service", "/a.service.requires/b.service"} {
			checkNoFile(t, place+rest)
		}
	}
	for _, path := range []string{"a.service", "etc", "etc/", "etca.service", "etc\\a.service", "etc:a.service", "a.service/etc"} {
		checkNoFile(t, path)
	}
}

// P12.1: unit files.

func TestUnitFiles(t *testing.T) {
	for _, suffix := range suffixes {
		for _, body := range []string{"a", "a@", "a@i", "a.b", `\x2d`, "a:_-@.", "d", "a.service.d", "a.wants", strings.Repeat("x", 60-len(suffix))} {
			for _, text := range []string{"", "x", "[Unit]\n", "\x00\xff", "null"} {
				checkFile(t, api.File{Path: "etc/" + body + suffix, Text: text}, true)
			}
		}
		checkNoFile(t, "etc/"+strings.Repeat("x", 61-len(suffix))+suffix)
	}
}

func TestNamesOfNoUnitFile(t *testing.T) {
	for _, other := range noNames {
		checkNoFile(t, "etc/"+other)
		checkNoFile(t, "etc/"+other+"/")
	}
	for _, path := range []string{"etc/a.service/", "etc//a.service", "etc/a.service/b.service", "etc/a/b.service", "etc/a/x.conf", "etc/a.service.d", "etc/a.service.d/", "etc/./a.service", "etc/a.service/d/x.conf", "etc/a.service/x.conf"} {
		checkNoFile(t, path)
	}
}

// P12.1: links.

func TestLinksThatMask(t *testing.T) {
	for _, suffix := range suffixes {
		for _, body := range []string{"a", "a@", "a@i"} {
			for _, place := range places {
				path := place + "/" + body + suffix
				checkFile(t, api.File{Path: path, Link: "null"}, true)
				checkFile(t, api.File{Path: path, Link: "null", Text: "x"}, false)
				for _, link := range []string{"Null", "NULL", "null ", " null", "nul", "nulll", "null\x00", "/dev/null", "0", "nil"} {
					checkFile(t, api.File{Path: path, Link: link}, false)
				}
			}
		}
	}
}

func TestLinksToUnits(t *testing.T) {
	bodies := []string{"a", "a@", "a@i", "b", "b@", "b@i", "null"}
	for _, suffix := range suffixes {
		for _, body := range bodies {
			for _, otherSuffix := range suffixes {
				for _, other := range bodies {
					// Only what ends with @ is a template; a link may lead to its own name.
					want := suffix == otherSuffix && strings.HasSuffix(body, "@") == strings.HasSuffix(other, "@")
					file := api.File{Path: "run/" + body + suffix, Link: other + otherSuffix}
					checkFile(t, file, want)
					file.Text = "x"
					checkFile(t, file, false)
				}
			}
		}
	}
}

func TestLinksToNoUnits(t *testing.T) {
	for _, link := range append([]string{"etc/b.service", "/b.service", "b.service/", "../b.service"}, noNames...) {
		if link == "" || link == "null" {
			continue
		}
		for _, own := range []string{"a.service", "a@.service", "a@i.service", "a.timer"} {
			checkFile(t, api.File{Path: "etc/" + own, Link: link}, false)
		}
	}
	long := strings.Repeat("x", 52) + ".service"
	checkFile(t, api.File{Path: "etc/a.service", Link: long}, true)
	checkFile(t, api.File{Path: "etc/a.service", Link: "x" + long}, false)
}

// P12.1: drop-in files.

func TestDropIns(t *testing.T) {
	for _, suffix := range suffixes {
		for _, body := range []string{"a", "a@", "a@i", "a.d", strings.Repeat("x", 60-len(suffix))} {
			for _, x := range []string{"x", "0", "-", "_", "10-x_Y", "conf", "d", "null", strings.Repeat("x", 20)} {
				path := "etc/" + body + suffix + ".d/" + x + ".conf"
				checkFile(t, api.File{Path: path}, true)
				checkFile(t, api.File{Path: path, Text: "[Unit]\n"}, true)
				for _, link := range []string{"null", "b" + suffix, body + suffix, "b@" + suffix, x} {
					checkFile(t, api.File{Path: path, Link: link}, false)
					checkFile(t, api.File{Path: path, Link: link, Text: "x"}, false)
				}
			}
		}
		checkNoFile(t, "etc/"+strings.Repeat("x", 61-len(suffix))+suffix+".d/x.conf")
	}
}

func TestLengthsOfDropIns(t *testing.T) {
	for length := range 60 {
		path := "lib/a.service.d/" + strings.Repeat("x", length) + ".conf"
		checkFile(t, api.File{Path: path}, 1 <= length && length <= 20)
	}
}

func TestEachByteOfDropIns(t *testing.T) {
	const allowed = "abcdefghijklmnopqrstuvwxyzABCDEFGHIJKLMNOPQRSTUVWXYZ0123456789-_"
	for c := range 256 {
		b := string([]byte{byte(c)})
		for _, x := range []string{b, b + "x", "x" + b, "x" + b + "x"} {
			checkFile(t, api.File{Path: "etc/a.service.d/" + x + ".conf"}, strings.Contains(allowed, b))
		}
	}
	for _, x := range []string{"é", "ß", "１", "x\u0301", "\ufffd"} {
		checkNoFile(t, "etc/a.service.d/"+x+".conf")
	}
}

func TestNamesOfNoDropIns(t *testing.T) {
	for _, base := range []string{"", "x", ".conf", "conf", "xconf", "x.", "x.con", "x.conf ", "x.Conf", "x.CONF", "x.confx", "x.conf.conf", "x.conf/", "/x.conf", "x/y.conf", "b.service", "b.service.conf", "x.conf\n", "x..conf"} {
		checkNoFile(t, "etc/a.service.d/"+base)
	}
	for _, folder := range []string{".d", "a.d", "a.service.D", "a.serviced", "a.service.dd", "a.service.", "a.service", "a.service.conf", "a.service..d", "a.service.d.d", "a.mount.d", "@.service.d", "a service.d", "d"} {
		checkNoFile(t, "etc/"+folder+"/x.conf")
	}
	for _, other := range noNames {
		checkNoFile(t, "etc/"+other+".d/x.conf")
	}
}

// P12.1: links of units that are wanted and required.

func TestWantedAndRequired(t *testing.T) {
	names := []string{"a.target", "a.service", "a@.service", "a@i.service", "a.socket", "a.wants.timer", strings.Repeat("x", 53) + ".target"}
	for _, folder := range []string{".wants/", ".requires/"} {
		for _, owner := range names {
			for _, other := range names {
				path := "etc/" + owner + folder + other
				for _, link := range names {
					// Any unit name will do as the link, but V is no template.
					file := api.File{Path: path, Link: link}
					checkFile(t, file, other != "a@.service")
					file.Text = "x"
					checkFile(t, file, false)
				}
				checkFile(t, api.File{Path: path}, false)
				checkFile(t, api.File{Path: path, Text: "x"}, false)
				for _, link := range noNames {
					checkFile(t, api.File{Path: path, Link: link}, false)
				}
			}
		}
		for _, template := range []string{"a@.target", "a@.service", "a@.socket", "a@.timer"} {
			checkNoFile(t, "etc/t.target"+folder+template)
			checkFile(t, api.File{Path: "etc/t.target" + folder + template, Link: template}, false)
		}
		for _, other := range noNames {
			checkNoFile(t, "etc/t.target"+folder+other)
			checkNoFile(t, "etc/"+other+folder+"a.service")
		}
		checkNoFile(t, "etc/"+strings.Repeat("x", 54)+".target"+folder+"a.service")
	}
}

func TestFoldersThatAreNone(t *testing.T) {
	for _, folder := range []string{".likes", ".Wants", ".WANTS", ".want", ".wantss", ".wants ", ".require", ".Requires", ".requires.wants", ".wants.d", ".requisite", "wants", "requires", ".", ""} {
		checkNoFile(t, "etc/t.target"+folder+"/b.service")
		checkNoFile(t, "etc/t.target"+folder+"/x.conf")
	}
	for _, path := range []string{"etc/.wants/b.service", "etc/wants/b.service", "etc/t.wants/b.service", "etc/t.target.wants", "etc/t.target.wants/", "etc/t.target.wants//b.service", "etc/t.target.wants/b.service/", "etc/t.target.wants/b.service/c.service", "etc/t.target.wants/x.conf", "etc/t.target.requires/x.conf"} {
		checkNoFile(t, path)
	}
}

// P12.1: lengths, and files together.

func TestLengthsOfTexts(t *testing.T) {
	for length, want := range map[int]bool{0: true, 1: true, 400: true, 19999: true, 20000: true, 20001: false, 20002: false, 40000: false, 1 << 16: false} {
		text := strings.Repeat("x", length)
		for _, path := range []string{"etc/a.service", "run/a@.timer", "lib/a@i.target", "etc/a.service.d/x.conf"} {
			checkFile(t, api.File{Path: path, Text: text}, want)
		}
	}
}

func TestManyLongTexts(t *testing.T) {
	files := numbered(120)
	for i := range files {
		files[i].Text = strings.Repeat("x", 20000)
	}
	checkMay(t, files, true)
	files[119].Text += "x"
	checkMay(t, files, false)
}

// numbered returns files of n units.
func numbered(n int) []api.File {
	files := make([]api.File, n)
	for i := range files {
		files[i].Path = places[i%3] + "/a" + strconv.Itoa(i) + ".service"
	}
	return files
}

func checkMay(t *testing.T, files []api.File, want bool) {
	t.Helper()
	if got := disk.May(files); got != want {
		t.Errorf("May of %d files is %v: %.1000q", len(files), got, files)
	}
}

func TestNumbersOfFiles(t *testing.T) {
	for _, n := range []int{0, 1, 2, 64, 119, 120, 121, 122, 240, 1 << 16} {
		checkMay(t, numbered(n), n <= 120)
	}
	// Links and drop-in files count as well.
	for _, file := range around {
		checkMay(t, append(numbered(119), file), true)
		checkMay(t, append(numbered(120), file), false)
	}
}

func TestEqualPaths(t *testing.T) {
	files := tree("etc/a.service\nrun/a@.timer > null\netc/c.service > a.service\nlib/a.service.d/x.conf\netc/t.target.wants/a.service > a.service\netc/t.target.requires/a.service > a.service")
	checkMay(t, files, true)
	for i, file := range files {
		checkMay(t, append(slices.Clone(files), file), false)
		checkMay(t, slices.Insert(slices.Clone(files), i, file), false)
	}
	// Also where the rest differs.
	for _, other := range tree("etc/a.service > null\nrun/a@.timer\nrun/a@.timer > a@.timer\netc/c.service\nlib/a.service.d/x.conf\netc/t.target.wants/a.service > b.service") {
		other.Text = ""
		checkMay(t, []api.File{other}, true)
		checkMay(t, append(slices.Clone(files), other), false)
		checkMay(t, append([]api.File{other}, files...), false)
	}
}

func TestNearlyEqualPaths(t *testing.T) {
	checkMay(t, tree(`
		etc/a.service
		run/a.service
		lib/a.service
		etc/A.service
		etc/a@.service
		etc/a@i.service
		etc/a.target
		etc/a.service.d/x.conf
		etc/a.service.d/X.conf
		run/a.service.d/x.conf
		etc/a@.service.d/x.conf
		etc/a.service.wants/a.service > a.service
		etc/a.service.requires/a.service > a.service
		run/a.service.wants/a.service > a.service
		etc/A.service.wants/a.service > a.service
		etc/a.service.wants/A.service > a.service`), true)
}
