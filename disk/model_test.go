package disk_test

import (
	"math/rand"
	"regexp"
	"slices"
	"strings"
	"testing"

	"matins/api"
	"matins/disk"
)

// The paths of P12.1, described apart from the package, but for the lengths of
// names.
var (
	unitName = regexp.MustCompile(`^([a-zA-Z0-9:\-_.\\]+)(@([a-zA-Z0-9:\-_.\\]*))?\.(service|socket|timer|target)$`)
	unitPath = regexp.MustCompile(`^(etc|run|lib)/([^/]*)$`)
	dropPath = regexp.MustCompile(`^(etc|run|lib)/([^/]*)\.d/([a-zA-Z0-9_-]{1,20})\.conf$`)
	linkPath = regexp.MustCompile(`^(etc|run|lib)/([^/]*)\.(wants|requires)/([^/]*)$`)
)

// taken is what a unit name consists of.
type taken struct {
	prefix, at, instance, suffix string
}

func take(s string) (taken, bool) {
	m := unitName.FindStringSubmatch(s)
	if m == nil || len(s) > 60 {
		return taken{}, false
	}
	at := ""
	if m[2] != "" {
		at = "@"
	}
	return taken{m[1], at, m[3], m[4]}, true
}

func (n taken) String() string      { return n.prefix + n.at + n.instance + "." + n.suffix }
func (n taken) isTemplate() bool    { return n.at != "" && n.instance == "" }
func (n taken) with(i string) taken { return taken{n.prefix, "@", i, n.suffix} }

// expectedFile reports whether there may be a file like this.
func expectedFile(f api.File) bool {
	if len(f.Text) > 20000 {
		return false
	}
	if m := unitPath.FindStringSubmatch(f.Path); m != nil {
		own, ok := take(m[2])
		target, isName := take(f.Link)
		leads := isName && target.suffix == own.suffix && target.isTemplate() == own.isTemplate()
		return ok && (f.Link == "" || f.Text == "" && (f.Link == "null" || leads))
	}
	if m := dropPath.FindStringSubmatch(f.Path); m != nil {
		_, ok := take(m[2])
		return ok && f.Link == ""
	}
	if m := linkPath.FindStringSubmatch(f.Path); m != nil {
		_, ok := take(m[2])
		other, isName := take(m[4])
		_, leads := take(f.Link)
		return ok && isName && !other.isTemplate() && leads && f.Text == ""
	}
	return false
}

func expectedMay(files []api.File) bool {
	count := map[string]int{}
	for _, f := range files {
		count[f.Path]++
		if count[f.Path] > 1 || !expectedFile(f) {
			return false
		}
	}
	return len(files) <= 120
}

// expectedFind looks up names in sound files, and remembers each of them.
func expectedFind(files []api.File, unit string) (api.Found, api.Errno) {
	first, ok := take(unit)
	if !ok {
		return api.Found{}, api.ErrName
	}
	byPath := map[string]api.File{}
	for _, f := range files {
		byPath[f.Path] = f
	}
	lookedUp := []taken{first}
	for {
		n := lookedUp[len(lookedUp)-1]
		f, ofTemplate, ok := expectedFileOf(byPath, n)
		switch {
		case !ok && len(lookedUp) == 1:
			return api.Found{}, api.ErrNone
		case !ok:
			return api.Found{}, api.ErrLink
		case f.Link == "null":
			return api.Found{Name: n.String(), Path: f.Path, Masked: true}, api.OK
		case f.Link == "":
			return api.Found{Name: n.String(), Path: f.Path, Drops: expectedDrops(files, n)}, api.OK
		}
		target, _ := take(f.Link)
		if ofTemplate {
			target = target.with(n.instance)
		}
		if _, ok := take(target.String()); !ok || slices.Contains(lookedUp, target) || len(lookedUp) == 9 {
			return api.Found{}, api.ErrLink
		}
		lookedUp = append(lookedUp, target)
	}
}

func expectedFileOf(byPath map[string]api.File, n taken) (f api.File, ofTemplate, ok bool) {
	paths := []string{"etc/" + n.String(), "run/" + n.String(), "lib/" + n.String()}
	if n.instance != "" {
		template := n.with("").String()
		paths = append(paths, "etc/"+template, "run/"+template, "lib/"+template)
	}
	for i, path := range paths {
		if f, ok := byPath[path]; ok {
			return f, i >= 3, true
		}
	}
	return api.File{}, false, false
}

// expectedDrops sorts all drop-in files for a name by X, then by precedence.
func expectedDrops(files []api.File, n taken) []string {
	var all [][]string // X, how far the precedence is from the first, and the path
	for _, f := range files {
		m := dropPath.FindStringSubmatch(f.Path)
		if m == nil {
			continue
		}
		rank := map[string]string{"etc": "0", "run": "1", "lib": "2"}[m[1]]
		if m[2] == n.String() {
			all = append(all, []string{m[3], "0" + rank, f.Path})
		} else if n.instance != "" && m[2] == n.with("").String() {
			all = append(all, []string{m[3], "1" + rank, f.Path})
		}
	}
	slices.SortFunc(all, slices.Compare[[]string])
	var paths []string
	for i, drop := range all {
		if i == 0 || all[i-1][0] != drop[0] {
			paths = append(paths, drop[2])
		}
	}
	return paths
}

// expectedLinks returns the names with blanks between them, of sound files.
func expectedLinks(files []api.File, unit, folder string) string {
	var names []string
	for _, f := range files {
		if m := linkPath.FindStringSubmatch(f.Path); m != nil && m[2] == unit && m[3] == folder && !slices.Contains(names, m[4]) {
			names = append(names, m[4])
		}
	}
	slices.Sort(names)
	return strings.Join(names, " ")
}

// someNames are names of which those that are related come often.
var someNames = []string{
	"a.service", "b.service", "c.service", "d.service", "t@.service", "u@.service", "t@i.service", "u@i.service", "t@j.service", "u@j.service",
	"t@" + strings.Repeat("i", 49) + ".service", "u23@" + ".service", "a.timer", "t@.timer", "t@i.timer",
}

func pick[T any](random *rand.Rand, l ...T) T { return l[random.Intn(len(l))] }

// someFile returns a file which is rarely wrong.
func someFile(random *rand.Rand) api.File {
	place, own, other := pick(random, places...), pick(random, someNames...), pick(random, someNames...)
	f := api.File{Path: place + "/" + own}
	switch random.Intn(6) {
	case 0:
		f.Text = pick(random, "", "x", "[Unit]\n")
	case 1:
		f.Path += ".d/" + pick(random, "a", "a-b", "b", "B", "0", "conf") + ".conf"
	case 2:
		f.Path += pick(random, ".wants/", ".requires/") + other
		f.Link = pick(random, other, pick(random, someNames...))
	case 3:
		f.Link = pick(random, "null", other, other, other)
	default:
		f.Link = other
	}
	switch random.Intn(400) {
	case 0:
		f.Path = f.Path[:random.Intn(len(f.Path)+1)]
	case 1:
		i := random.Intn(len(f.Path) + 1)
		f.Path = f.Path[:i] + pick(random, ".", "/", "@", " ", "x", "\xff", ".d/", ".wants/") + f.Path[i:]
	case 2:
		f.Text += "y"
	case 3:
		f.Link = pick(random, "", "null", "x", "NULL", "a@b@c.service")
	}
	return f
}

// someFiles returns files most of which fit together.
func someFiles(random *rand.Rand) []api.File {
	var files []api.File
	has := map[string]bool{}
	for range random.Intn(50) {
		f := someFile(random)
		if (expectedFile(f) && !has[f.Path]) || random.Intn(200) == 0 {
			files = append(files, f)
			has[f.Path] = true
		}
	}
	return files
}

// checkModel checks all that is said of files, for each of some units, and counts
// the errors of Find.
func checkModel(t *testing.T, files []api.File, units []string, came map[api.Errno]int) {
	t.Helper()
	may := expectedMay(files)
	if got := disk.May(files); got != may {
		t.Errorf("May(%.3000q) = %v", files, got)
	}
	for _, unit := range units {
		want, wantErr, wants, requires := api.Found{}, api.ErrForm, "", ""
		if may {
			want, wantErr = expectedFind(files, unit)
			wants, requires = expectedLinks(files, unit, "wants"), expectedLinks(files, unit, "requires")
		}
		got, err := disk.Find(files, unit)
		if !same(got, want) || err != wantErr {
			t.Errorf("Find(%.3000q, %.300q) = %+v, %d, want %+v, %d", files, unit, got, err, want, wantErr)
		}
		w, r := disk.Links(files, unit)
		if strings.Join(w, " ") != wants || strings.Join(r, " ") != requires {
			t.Errorf("Links(%.3000q, %.300q) = %q, %q, want %q, %q", files, unit, w, r, wants, requires)
		}
		came[err]++
	}
}

func TestRandomFiles(t *testing.T) {
	random := rand.New(rand.NewSource(12))
	came := map[api.Errno]int{}
	units := slices.Concat(someNames, []string{"x", "u@k.service", "u23@" + strings.Repeat("i", 48) + ".service"})
	for range 1500 {
		checkModel(t, someFiles(random), units, came)
		if t.Failed() {
			return
		}
	}
	for _, err := range []api.Errno{api.OK, api.ErrForm, api.ErrName, api.ErrNone, api.ErrLink} {
		if came[err] < 500 {
			t.Errorf("error %d came %d times", err, came[err])
		}
	}
}

// Single files, of all kinds, with faults anywhere.
func TestRandomPaths(t *testing.T) {
	random := rand.New(rand.NewSource(13))
	pieces := []string{"etc", "run", "lib", "usr", "/", "/", "/", "a", "b@", "@", "i", ".service", ".service", ".timer", ".mount", ".d", ".wants", ".requires", ".conf", ".", "-", " ", "null", "x.conf", "c.service", "d@.service"}
	may := 0
	for range 100000 {
		var path strings.Builder
		path.WriteString(pick(random, "etc/", "run/", "lib/", "a.service", ""))
		for range 1 + random.Intn(7) {
			path.WriteString(pick(random, pieces...))
		}
		f := api.File{Path: path.String(), Text: pick(random, "", "", "x"), Link: pick(random, "", "", "null", "a.service", "b@.service", "b@i.service", "a.timer", "x", pick(random, pieces...))}
		want := expectedFile(f)
		if got := disk.May([]api.File{f}); got != want {
			t.Fatalf("May of %q is %v", f, got)
		}
		if want {
			may++
		}
	}
	if may < 1000 {
		t.Errorf("only %d files may be", may)
	}
}

// All files of a few names, each of which is absent, a unit file or a link.
func TestAllSmallTrees(t *testing.T) {
	names := []string{"t@.service", "t@i.service", "u@.service", "u@i.service"}
	choices := [][]string{{"-", "", "null", "t@.service", "u@.service"}, {"-", "", "null", "t@i.service", "u@i.service", "u@j.service"}}
	units, came := append(names, "t@j.service", "u@j.service", "t.service"), map[api.Errno]int{}
	var fill func(i int, files []api.File)
	fill = func(i int, files []api.File) {
		if i == len(names) {
			checkModel(t, files, units, came)
			return
		}
		for _, link := range choices[i%2] {
			next := slices.Clone(files)
			if link != "-" {
				next = append(next, api.File{Path: places[(i+len(link))%3] + "/" + names[i], Link: link})
			}
			fill(i+1, next)
		}
	}
	fill(0, tree("etc/t@.service.d/x.conf\nlib/t@i.service.d/x.conf\nrun/u@.service.d/w.conf"))
	if total := 5 * 6 * 5 * 6 * len(units); came[api.OK]+came[api.ErrNone]+came[api.ErrLink] != total {
		t.Errorf("errors came %v times, want %d", came, total)
	}
}
