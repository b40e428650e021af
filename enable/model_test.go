package enable_test

import (
	"math/rand"
	"regexp"
	"slices"
	"sort"
	"strings"
	"testing"

	"matins/api"
	"matins/blend"
	"matins/disk"
	"matins/enable"
	"matins/lines"
	"matins/name"
	"matins/unit"
)

// What the chapter says, taken word by word, apart from the package but with the
// layers below it.

func expectedRead(files []api.File, unitName string) (api.Unit, string, api.Fault) {
	found, err := disk.Find(files, unitName)
	if err != api.OK {
		return api.Unit{}, "", api.Fault{Code: err}
	}
	if found.Masked {
		return api.Unit{}, "", api.Fault{Code: api.ErrMasked}
	}
	texts := map[string]string{}
	for _, f := range files {
		texts[f.Path] = f.Text
	}
	var all []api.Line
	for _, path := range append([]string{found.Path}, found.Drops...) {
		l, fault := lines.Parse(texts[path])
		if fault.Code != api.OK {
			return api.Unit{}, path, fault
		}
		all = append(all, l...)
	}
	u, fault := unit.Make(found.Name, blend.All(all))
	return u, found.Path, fault
}

// requested is a link that a unit requests.
type requested struct {
	path, link string
	alias      string // or ""
}

func requestedBy(u api.Unit) []requested {
	var l []requested
	for _, t := range u.WantedBy {
		l = append(l, requested{"etc/" + t + ".wants/" + u.Name, u.Name, ""})
	}
	for _, t := range u.RequiredBy {
		l = append(l, requested{"etc/" + t + ".requires/" + u.Name, u.Name, ""})
	}
	for _, a := range u.Alias {
		l = append(l, requested{"etc/" + a, u.Name, a})
	}
	return l
}

// expectedTogether returns a unit and those of its Also, by name: it adds units
// until there are no more.
func expectedTogether(files []api.File, u api.Unit) map[string]api.Unit {
	all := map[string]api.Unit{u.Name: u}
	for {
		var more []api.Unit
		for _, one := range all {
			for _, also := range one.Also {
				next, _, fault := expectedRead(files, also)
				if _, has := all[next.Name]; fault.Code == api.OK && !has {
					more = append(more, next)
				}
			}
		}
		if len(more) == 0 {
			return all
		}
		for _, next := range more {
			all[next.Name] = next
		}
	}
}

// isTwice reports whether the links have a fault for ErrTwice.
func isTwice(files []api.File, all []requested) bool {
	for _, r := range all {
		if r.alias != "" && name.Kind(r.alias) != name.Kind(r.link) {
			return true
		}
		for _, f := range files {
			if r.alias != "" && f.Path == r.path && f.Link != r.link {
				return true
			}
		}
		for _, other := range all {
			if other.path == r.path && other.link != r.link {
				return true
			}
		}
	}
	return false
}

func expectedOn(files []api.File, unitName string) ([]api.File, api.Errno) {
	u, _, fault := expectedRead(files, unitName)
	if fault.Code != api.OK {
		return nil, fault.Code
	}
	var all []requested
	for _, one := range expectedTogether(files, u) {
		all = append(all, requestedBy(one)...)
	}
	if len(all) == 0 {
		return nil, api.ErrNone
	}
	if isTwice(files, all) {
		return nil, api.ErrTwice
	}
	missing := map[string]api.File{}
	for _, r := range all {
		missing[r.path] = api.File{Path: r.path, Link: r.link}
	}
	for _, f := range files {
		delete(missing, f.Path)
	}
	var paths []string
	for path := range missing {
		paths = append(paths, path)
	}
	sort.Strings(paths)
	result := slices.Clone(files)
	for _, path := range paths {
		result = append(result, missing[path])
	}
	if len(result) > 120 {
		return nil, api.ErrFull
	}
	return result, api.OK
}

var (
	inFolder = regexp.MustCompile(`^etc/[^/]*\.(wants|requires)/([^/]*)$`)
	plain    = regexp.MustCompile(`^etc/([^/]*)$`)
)

func expectedOff(files []api.File, unitName string) ([]api.File, api.Errno) {
	return expectedRest(files, unitName, func(f api.File) bool {
		m := inFolder.FindStringSubmatch(f.Path)
		return m != nil && m[2] == unitName || plain.MatchString(f.Path) && f.Link == unitName
	})
}

func expectedUnmask(files []api.File, unitName string) ([]api.File, api.Errno) {
	return expectedRest(files, unitName, func(f api.File) bool { return f.Path == "etc/"+unitName && f.Link == "null" })
}

func expectedRest(files []api.File, unitName string, goes func(api.File) bool) ([]api.File, api.Errno) {
	if !disk.May(files) {
		return nil, api.ErrForm
	}
	if !name.May(unitName) {
		return nil, api.ErrName
	}
	var rest []api.File
	err := api.ErrNone
	for _, f := range files {
		if goes(f) {
			err = api.OK
		} else {
			rest = append(rest, f)
		}
	}
	if err != api.OK {
		return nil, err
	}
	return rest, api.OK
}

func expectedMask(files []api.File, unitName string) ([]api.File, api.Errno) {
	if !disk.May(files) {
		return nil, api.ErrForm
	}
	if !name.May(unitName) {
		return nil, api.ErrName
	}
	for _, f := range files {
		if f.Path == "etc/"+unitName {
			return nil, api.ErrTwice
		}
	}
	if len(files) == 120 {
		return nil, api.ErrFull
	}
	return append(slices.Clone(files), api.File{Path: "etc/" + unitName, Link: "null"}), api.OK
}

func expectedIs(files []api.File, unitName string) string {
	found, err := disk.Find(files, unitName)
	_, offErr := expectedOff(files, unitName)
	u, _, fault := expectedRead(files, unitName)
	for _, x := range []struct {
		word  string
		holds bool
	}{
		{"wrong", err != api.OK && err != api.ErrNone},
		{"missing", err == api.ErrNone},
		{"masked", found.Masked},
		{"alias", found.Name != unitName},
		{"enabled", offErr == api.OK},
		{"bad", fault.Code != api.OK},
		{"static", len(u.WantedBy) == 0 && len(u.RequiredBy) == 0 && len(u.Alias) == 0 && len(u.Also) == 0},
	} {
		if x.holds {
			return x.word
		}
	}
	return "disabled"
}

// someNames are names of which those that are related come often.
var someNames = []string{"a.target", "b.target", "c.target", "d.target", "e.target", "f.target", "x.target", "a.service", "b.timer", "t@i.target", "t@j.target", "u@i.target"}

func pick[T any](random *rand.Rand, l ...T) T { return l[random.Intn(len(l))] }

// someInstall returns lines of the section Install, which are rarely wrong.
func someInstall(random *rand.Rand) string {
	var b strings.Builder
	b.WriteString("[Install]\n")
	for range random.Intn(4) {
		b.WriteString(pick(random, "WantedBy", "RequiredBy", "Alias", "Also", "Also", "Also") + "=" + pick(random, someNames...))
		switch random.Intn(5) {
		case 0:
			b.WriteString(" " + pick(random, "%p.target", "%i.target", "t@%i.target", "u@%p.target", "%n", "%p@x%i.target"))
		case 1:
			b.WriteString(" " + pick(random, someNames...))
		}
		b.WriteString("\n")
	}
	if random.Intn(25) == 0 {
		b.WriteString(pick(random, "Odd=1\n", "x\n", "Also=\n", "Alias=%\n", "WantedBy=x\n", "Alias=t@.target\n", "[Service]\nExecStart=/y\n"))
	}
	return b.String()
}

// someFile returns a file which is rarely wrong.
func someFile(random *rand.Rand) api.File {
	own, other := pick(random, append(someNames, "t@.target", "u@.target")...), pick(random, someNames...)
	f := api.File{Path: pick(random, "etc/", "run/", "lib/", "lib/", "lib/") + own}
	switch random.Intn(10) {
	case 0:
		f.Link = pick(random, "null", other, other, "t@.target")
	case 1:
		f.Path += ".d/" + pick(random, "a", "b") + ".conf"
		f.Text = someInstall(random)
	case 2:
		f.Path += pick(random, ".wants/", ".requires/") + other
		f.Link = pick(random, other, other, pick(random, someNames...))
	default:
		f.Text = soundText(own) + someInstall(random)
	}
	if random.Intn(2000) == 0 {
		f.Path += pick(random, "x", "/", "\xff")
	}
	return f
}

// someFiles returns files that mostly fit together, and at times as many as there
// may be.
func someFiles(random *rand.Rand) []api.File {
	var files []api.File
	for range random.Intn(25) {
		f := someFile(random)
		if disk.May(append(files, f)) || random.Intn(300) == 0 {
			files = append(files, f)
		}
	}
	if random.Intn(4) == 0 {
		files = append(files, numbered(118-len(files)+random.Intn(3))...)
		random.Shuffle(len(files), func(i, j int) { files[i], files[j] = files[j], files[i] })
	}
	return files
}

func checkModel(t *testing.T, files []api.File, unitName string, came map[string]int) {
	t.Helper()
	u, path, fault := enable.Read(files, unitName)
	wantUnit, wantPath, wantFault := expectedRead(files, unitName)
	if !unit.Same(u, wantUnit) || path != wantPath || fault != wantFault {
		t.Errorf("Read(%q, %q) = %+v, %q, %+v, want %+v, %q, %+v", files, unitName, u, path, fault, wantUnit, wantPath, wantFault)
	}
	for _, x := range []struct {
		name       string
		call, want changer
	}{{"On", enable.On, expectedOn}, {"Off", enable.Off, expectedOff}, {"Mask", enable.Mask, expectedMask}, {"Unmask", enable.Unmask, expectedUnmask}} {
		got, err := x.call(files, unitName)
		want, wantErr := x.want(files, unitName)
		if err != wantErr || !slices.Equal(got, want) {
			t.Errorf("%s(%q, %q) = %q, %d, want %q, %d", x.name, files, unitName, got, err, want, wantErr)
		}
		if !disk.May(got) {
			t.Errorf("%s(%q, %q) = %q, which may not be", x.name, files, unitName, got)
		}
		came[x.name+" "+err.Error()]++
	}
	is, want := enable.Is(files, unitName), expectedIs(files, unitName)
	if is != want {
		t.Errorf("Is(%q, %q) = %q, want %q", files, unitName, is, want)
	}
	came["Is "+is]++
}

func TestRandomFiles(t *testing.T) {
	random := rand.New(rand.NewSource(13))
	came := map[string]int{}
	for range 700 {
		files := someFiles(random)
		for _, unitName := range slices.Concat(someNames, []string{"t@.target", "u@k.target", "x"}) {
			checkModel(t, files, unitName, came)
		}
		if t.Failed() {
			return
		}
	}
	for _, x := range []struct {
		call string
		errs []api.Errno
	}{
		{"On", []api.Errno{api.OK, api.ErrForm, api.ErrName, api.ErrNone, api.ErrTwice, api.ErrFull, api.ErrLine, api.ErrKey, api.ErrValue, api.ErrSpec, api.ErrMasked, api.ErrLink}},
		{"Off", []api.Errno{api.OK, api.ErrForm, api.ErrName, api.ErrNone}},
		{"Mask", []api.Errno{api.OK, api.ErrForm, api.ErrName, api.ErrTwice, api.ErrFull}},
		{"Unmask", []api.Errno{api.OK, api.ErrForm, api.ErrName, api.ErrNone}},
	} {
		for _, err := range x.errs {
			if came[x.call+" "+err.Error()] < 10 {
				t.Errorf("%s had error %d only %d times", x.call, err, came[x.call+" "+err.Error()])
			}
		}
	}
	for _, word := range []string{"wrong", "missing", "masked", "alias", "enabled", "bad", "static", "disabled"} {
		if came["Is "+word] < 50 {
			t.Errorf("Is was %q only %d times", word, came["Is "+word])
		}
	}
}

// N4: disabling and unmasking undo enabling and masking.
func TestRandomChangesAreUndone(t *testing.T) {
	random := rand.New(rand.NewSource(14))
	undone := 0
	for range 600 {
		files := someFiles(random)
		for _, unitName := range someNames {
			if masked, err := enable.Mask(files, unitName); err == api.OK {
				if back, err := enable.Unmask(masked, unitName); err != api.OK || !slices.Equal(back, files) || enable.Is(masked, unitName) != "masked" {
					t.Errorf("with %q and %q, Unmask = %q, %d", files, unitName, back, err)
				}
			}
			u, _, _ := enable.Read(files, unitName)
			on, err := enable.On(files, unitName)
			if _, offErr := enable.Off(files, u.Name); err != api.OK || offErr != api.ErrNone || len(u.Also) > 0 {
				continue
			}
			if back, err := enable.Off(on, u.Name); err != api.OK || !slices.Equal(back, files) {
				t.Errorf("with %q and %q, Off = %q, %d", files, u.Name, back, err)
			}
			undone++
		}
	}
	if undone < 100 {
		t.Errorf("On was undone only %d times", undone)
	}
}
