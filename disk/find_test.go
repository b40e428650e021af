package disk_test

import (
	"slices"
	"strconv"
	"strings"
	"testing"

	"matins/api"
	"matins/disk"
)

// same reports whether what was found is the same.
func same(a, b api.Found) bool {
	return a.Name == b.Name && a.Path == b.Path && a.Masked == b.Masked && slices.Equal(a.Drops, b.Drops)
}

// checkFind checks what Find returns, and that the order of the files does not
// matter.
func checkFind(t *testing.T, files []api.File, unit string, want api.Found, wantErr api.Errno) {
	t.Helper()
	files = slices.Clone(files)
	for range 2 {
		for range max(1, len(files)) {
			got, err := disk.Find(files, unit)
			if !same(got, want) || err != wantErr {
				t.Errorf("Find(%.2000q, %.300q) = %+v, %d, want %+v, %d", files, unit, got, err, want, wantErr)
				return
			}
			if len(files) > 0 {
				files = append(files[1:], files[0])
			}
		}
		slices.Reverse(files)
	}
}

// checkFound checks that a unit is found, under a name, at a path, with drop-in
// files; if the first one of these is "masked", that it is masked.
func checkFound(t *testing.T, text, unit, name, path string, drops ...string) {
	t.Helper()
	want := api.Found{Name: name, Path: path, Drops: drops}
	if len(drops) > 0 && drops[0] == "masked" {
		want.Masked, want.Drops = true, nil
	}
	checkFind(t, tree(text), unit, want, api.OK)
}

func checkError(t *testing.T, text, unit string, want api.Errno) {
	t.Helper()
	checkFind(t, tree(text), unit, api.Found{}, want)
}

// P12.2: errors, and their order.

func TestFindInWrongFiles(t *testing.T) {
	sound := tree("etc/a.service\netc/b.service > b.service\netc/c.service > none.service")
	for _, file := range []api.File{{}, {Path: "a.service"}, {Path: "etc/a.service"}, {Path: "etc/x.service", Link: "x.timer"}, {Path: "etc/x.service", Text: strings.Repeat("x", 20001)}, {Path: "etc/a.service.d/.conf"}, {Path: "etc/a.service.wants/b.service"}} {
		for _, unit := range []string{"a.service", "b.service", "c.service", "d.service", "x", ""} {
			checkFind(t, append(slices.Clone(sound), file), unit, api.Found{}, api.ErrForm)
		}
	}
	checkFind(t, numbered(121), "a1.service", api.Found{}, api.ErrForm)
	checkFind(t, numbered(121), "x", api.Found{}, api.ErrForm)
	checkFind(t, numbered(120), "a1.service", api.Found{Name: "a1.service", Path: "run/a1.service"}, api.OK)
}

func TestFindNoNames(t *testing.T) {
	for _, unit := range append([]string{"etc/a.service", "/a.service", "a.service/", "a.service.d/x.conf", "t.target.wants/a.service", "a@.service.d"}, noNames...) {
		for _, text := range []string{"", "etc/a.service\netc/b.service > null\netc/a.service.d/x.conf\netc/t.target.wants/a.service > a.service\netc/a@.service"} {
			checkError(t, text, unit, api.ErrName)
		}
	}
}

func TestUnitsWithoutFile(t *testing.T) {
	const text = `
		etc/a.service
		etc/b.target.d/x.conf
		etc/b.target.wants/c.target > c.target
		etc/a.target.requires/b.target > b.target
		etc/l.target > b.target
		etc/t@i.target
		etc/u@.service
		etc/n.service > null`
	for _, unit := range []string{"b.target", "c.target", "a.target", "a.socket", "A.service", "aa.service", "a@i.service", "a@.service", "t@.target", "t@j.target", "t@ii.target", "t.target", "u.service", "u@.socket", "u@i.socket", "x.service"} {
		checkError(t, text, unit, api.ErrNone)
		checkError(t, "", unit, api.ErrNone)
	}
}

// P12.2: the file of a name.

func TestFirstPlaceIsTaken(t *testing.T) {
	for _, unit := range []string{"a.service", "a@.timer", "a@i.target"} {
		for bits := 1; bits < 8; bits++ {
			var text, first string
			for i, place := range places {
				if bits>>i&1 == 0 {
					continue
				}
				text += place + "/" + unit + "\n"
				if first == "" {
					first = place + "/" + unit
				}
			}
			checkFound(t, text, unit, unit, first)
		}
	}
}

// Unit files and links have the same precedence.
func TestFirstPlaceOfFilesAndLinks(t *testing.T) {
	checkFound(t, "lib/a.service\nrun/a.service > null", "a.service", "a.service", "run/a.service", "masked")
	checkFound(t, "run/a.service\nlib/a.service > null", "a.service", "a.service", "run/a.service")
	checkFound(t, "run/a.service > b.service\nlib/a.service\nlib/b.service", "a.service", "b.service", "lib/b.service")
	checkFound(t, "etc/a.service\nrun/a.service > b.service\nlib/b.service", "a.service", "a.service", "etc/a.service")
	checkFound(t, "etc/a.service > b.service\nrun/a.service > c.service\nlib/b.service\netc/c.service", "a.service", "b.service", "lib/b.service")
	checkFound(t, "etc/a.service > null\nrun/a.service > c.service\netc/c.service", "a.service", "a.service", "etc/a.service", "masked")
	// A link that leads nowhere is not passed over.
	checkError(t, "etc/a.service > none.service\nrun/a.service", "a.service", api.ErrLink)
	checkError(t, "etc/a.service > a.service\nrun/a.service", "a.service", api.ErrLink)
}

func TestEmptyUnitFile(t *testing.T) {
	files := []api.File{{Path: "etc/a.service"}, {Path: "lib/a.service", Text: "x"}}
	checkFind(t, files, "a.service", api.Found{Name: "a.service", Path: "etc/a.service"}, api.OK)
}

func TestFileOfTheTemplate(t *testing.T) {
	checkFound(t, "lib/t@.service", "t@i.service", "t@i.service", "lib/t@.service")
	checkFound(t, "lib/t@.service\nrun/t@.service", "t@i.service", "t@i.service", "run/t@.service")
	checkFound(t, "lib/t@.service\nrun/t@.service\netc/t@.service", "t@i.service", "t@i.service", "etc/t@.service")
	// The instance's own file comes first, in whichever directories they are.
	for _, own := range places {
		for _, template := range places {
			text := own + "/t@i.service\n" + template + "/t@.service"
			checkFound(t, text, "t@i.service", "t@i.service", own+"/t@i.service")
			checkFound(t, text, "t@j.service", "t@j.service", template+"/t@.service")
			checkFound(t, text, "t@.service", "t@.service", template+"/t@.service")
		}
	}
	checkFound(t, "lib/t@i.service > a.service\netc/t@.service\nlib/a.service", "t@i.service", "a.service", "lib/a.service")
	checkFound(t, "lib/t@i.service\netc/t@.service > null", "t@i.service", "t@i.service", "lib/t@i.service")
	checkError(t, "lib/t@i.service > a.service\netc/t@.service", "t@i.service", api.ErrLink)
}

func TestFilesOfOtherTemplates(t *testing.T) {
	for _, path := range []string{"etc/t.service", "etc/t@.socket", "etc/tt@.service", "etc/T@.service", "etc/t@j.service", "etc/t@ii.service", "etc/i@.service", "etc/t@.service.d/x.conf", "etc/t@i.service.service"} {
		checkError(t, path, "t@i.service", api.ErrNone)
	}
}

// P12.2: masked units.

func TestMasked(t *testing.T) {
	checkFound(t, "etc/a.service > null", "a.service", "a.service", "etc/a.service", "masked")
	checkFound(t, "lib/a@.timer > null", "a@.timer", "a@.timer", "lib/a@.timer", "masked")
	checkFound(t, "run/a@i.timer > null\netc/a@.timer", "a@i.timer", "a@i.timer", "run/a@i.timer", "masked")
	checkFound(t, "etc/a.service > null\nrun/a.service\nlib/a.service", "a.service", "a.service", "etc/a.service", "masked")
	// With the name that was looked up, also where the file is the template's.
	checkFound(t, "lib/a@.timer > null", "a@i.timer", "a@i.timer", "lib/a@.timer", "masked")
	checkFound(t, "lib/b.service > a.service\netc/a.service > null", "b.service", "a.service", "etc/a.service", "masked")
	checkFound(t, "lib/b@.service > a@.service\netc/a@.service > null", "b@i.service", "a@i.service", "etc/a@.service", "masked")
	checkFound(t, "lib/b.service > a@i.service\netc/a@.service > null", "b.service", "a@i.service", "etc/a@.service", "masked")
}

func TestMaskedHaveNoDrops(t *testing.T) {
	checkFound(t, "etc/a.service > null\netc/a.service.d/x.conf\nlib/a.service.d/y.conf", "a.service", "a.service", "etc/a.service", "masked")
	checkFound(t, "etc/a@.service > null\netc/a@.service.d/x.conf\nlib/a@i.service.d/y.conf", "a@i.service", "a@i.service", "etc/a@.service", "masked")
	checkFound(t, "etc/b.service > a.service\netc/a.service > null\netc/a.service.d/x.conf\nlib/b.service.d/y.conf", "b.service", "a.service", "etc/a.service", "masked")
}

// "null" is a link, but null.service is a unit.
func TestUnitNamedNull(t *testing.T) {
	checkFound(t, "etc/a.service > null.service\nlib/null.service", "a.service", "null.service", "lib/null.service")
	checkError(t, "etc/a.service > null.service", "a.service", api.ErrLink)
}

// P12.2: links.

func TestLinkIsFollowed(t *testing.T) {
	checkFound(t, "etc/b.service > a.service\nlib/a.service", "b.service", "a.service", "lib/a.service")
	checkFound(t, "etc/c.service > b.service\nrun/b.service > a.service\nlib/a.service\netc/a.service", "c.service", "a.service", "etc/a.service")
	checkFound(t, "etc/b@.timer > a@.timer\nlib/a@.timer", "b@.timer", "a@.timer", "lib/a@.timer")
	checkFound(t, "etc/b@i.timer > a@j.timer\nlib/a@j.timer", "b@i.timer", "a@j.timer", "lib/a@j.timer")
	checkFound(t, "etc/b.target > a@i.target\nlib/a@.target", "b.target", "a@i.target", "lib/a@.target")
	checkFound(t, "etc/b@i.target > a.target\nlib/a.target", "b@i.target", "a.target", "lib/a.target")
	// Other links and files of the same names have no part in it.
	checkFound(t, "etc/b.service > a.service\nlib/a.service\nrun/b.service > c.service\netc/a.timer > b.timer\netc/t.target.wants/b.service > c.service\netc/a.service.wants/b.service > c.service\nlib/c.service", "b.service", "a.service", "lib/a.service")
}

// The link of a template's file stands for an instance; that of an instance's own
// file for just what it says.
func TestLinkOfTheTemplate(t *testing.T) {
	checkFound(t, "etc/u@.service > t@.service\nlib/t@.service", "u@i.service", "t@i.service", "lib/t@.service")
	checkFound(t, "etc/u@.service > t@.service\nlib/t@.service\nlib/t@i.service", "u@i.service", "t@i.service", "lib/t@i.service")
	checkFound(t, "etc/u@.service > t@.service\nlib/t@i.service", "u@i.service", "t@i.service", "lib/t@i.service")
	checkFound(t, "etc/u@.service > t@.service\nlib/t@i.service > null\nlib/t@.service", "u@i.service", "t@i.service", "lib/t@i.service", "masked")
	checkFound(t, "etc/u@.service > t@.service\nlib/t@i.service > a.service\nlib/a.service", "u@i.service", "a.service", "lib/a.service")
	checkFound(t, "etc/v@.service > u@.service\nrun/u@.service > t@.service\nlib/t@.service", `v@x-\x2d.y.service`, `t@x-\x2d.y.service`, "lib/t@.service")
	checkFound(t, "etc/u@i.service > t@k.service\nlib/t@.service\nlib/u@.service", "u@i.service", "t@k.service", "lib/t@.service")
	checkFound(t, "etc/u@i.service > t@k.service\nrun/t@.service > s@.service\nlib/s@.service", "u@i.service", "s@k.service", "lib/s@.service")
	checkFound(t, "etc/a.service > t@k.service\nrun/t@.service > s@.service\nlib/s@.service", "a.service", "s@k.service", "lib/s@.service")
	checkFound(t, "etc/u@.service > t@.service\nlib/t@.service", "u@.service", "t@.service", "lib/t@.service")
	// What has only a file for the target's instance has none for the target.
	checkError(t, "etc/u@.service > t@.service\nlib/t@i.service", "u@.service", api.ErrLink)
	checkError(t, "etc/u@.service > t@.service\nlib/t@i.service", "u@j.service", api.ErrLink)
	checkError(t, "etc/u@.service > t@.service\nlib/t.service", "u@j.service", api.ErrLink)
}

func TestLinkToALongInstance(t *testing.T) {
	for _, suffix := range suffixes {
		for length := 1; length < 60-len("@")-len(suffix); length++ {
			template := strings.Repeat("x", length) + "@"
			text := "etc/u@" + suffix + " > " + template + suffix + "\nlib/" + template + suffix
			for _, spare := range []int{0, 1} {
				instance := strings.Repeat("i", 60-len(template)-len(suffix)+spare)
				if len("u@"+instance+suffix) > 60 {
					continue
				}
				if spare > 0 {
					checkError(t, text, "u@"+instance+suffix, api.ErrLink)
				} else {
					checkFound(t, text, "u@"+instance+suffix, template+instance+suffix, "lib/"+template+suffix)
				}
			}
		}
	}
	// The template that the link names is short enough, and has a file.
	long := strings.Repeat("x", 51) + "@.service"
	text := "etc/u@.service > " + long + "\nlib/" + long
	checkFound(t, text, "u@.service", long, "lib/"+long)
	checkError(t, text, "u@i.service", api.ErrLink)
}

func TestLinkWithoutTarget(t *testing.T) {
	for _, text := range []string{
		"etc/b.service > a.service",
		"etc/b.service > a.service\netc/a.timer\netc/a@.service\netc/A.service\netc/aa.service\netc/a.service.d/x.conf\netc/t.target.wants/a.service > b.service",
		"etc/b.service > c.service\netc/c.service > a.service",
		"etc/b.service > c.service\netc/c.service > a.service\netc/a.service.wants/c.service > c.service",
		"etc/b.service > a@i.service\netc/a@j.service",
		"etc/b.service > a@i.service\netc/a@.service > c@.service\netc/c@j.service",
	} {
		checkError(t, text, "b.service", api.ErrLink)
	}
	checkError(t, "etc/b@.service > a@.service", "b@.service", api.ErrLink)
	checkError(t, "etc/b@.service > a@.service", "b@i.service", api.ErrLink)
}

func TestLinksThatLeadRound(t *testing.T) {
	const two, three = "etc/a.service > b.service\netc/b.service > a.service", "etc/a.service > b.service\netc/b.service > c.service\nlib/c.service > a.service\nlib/d.service > b.service"
	checkError(t, "etc/a.service > a.service", "a.service", api.ErrLink)
	checkError(t, "etc/a.service > a.service\nlib/a.service", "a.service", api.ErrLink)
	checkError(t, "etc/b.service > a.service\netc/a.service > a.service", "b.service", api.ErrLink)
	checkError(t, two, "a.service", api.ErrLink)
	checkError(t, two, "b.service", api.ErrLink)
	for _, unit := range []string{"a.service", "b.service", "c.service", "d.service"} {
		checkError(t, three, unit, api.ErrLink)
	}
	checkError(t, "etc/t@.service > t@.service", "t@.service", api.ErrLink)
	checkError(t, "etc/t@.service > t@.service", "t@i.service", api.ErrLink)
	checkError(t, "etc/t@.service > u@.service\netc/u@.service > t@.service", "t@i.service", api.ErrLink)
	checkError(t, "etc/t@.service > u@.service\netc/u@i.service > t@i.service", "t@i.service", api.ErrLink)
	checkError(t, "etc/t@i.service > a.service\netc/a.service > t@i.service\nlib/t@.service", "t@i.service", api.ErrLink)
	// The same link twice, but of two names.
	checkFound(t, "etc/t@.service > u@.service\netc/u@i.service > t@j.service\nlib/u@j.service", "t@i.service", "u@j.service", "lib/u@j.service")
	checkFound(t, "etc/t@.service > t@.service\nlib/t@i.service", "t@i.service", "t@i.service", "lib/t@i.service")
}

// chain returns a text with links of n names in a row, whose names begin with
// body, and what the last one of them leads to.
func chain(n int, body, end string) string {
	var text strings.Builder
	for i := range n {
		text.WriteString(places[i%3] + "/" + body + strconv.Itoa(i) + end + " > " + body + strconv.Itoa(i+1) + end + "\n")
	}
	return text.String()
}

func TestHops(t *testing.T) {
	for n := range 13 {
		for _, end := range []string{".service", "@.service"} {
			last := "n" + strconv.Itoa(n) + end
			text := chain(n, "n", end) + "lib/" + last
			instance := strings.Replace(last, "@", "@i", 1)
			start, startInstance := "n0"+end, strings.Replace("n0"+end, "@", "@i", 1)
			if n > 8 {
				for _, mask := range []string{"", " > null"} {
					checkError(t, text+mask, start, api.ErrLink)
					checkError(t, text+mask, startInstance, api.ErrLink)
				}
				continue
			}
			checkFound(t, text, start, last, "lib/"+last)
			checkFound(t, text, startInstance, instance, "lib/"+last)
			// The link to null is none that is followed.
			checkFound(t, text+" > null", start, last, "lib/"+last, "masked")
			checkFound(t, text+" > null", startInstance, instance, "lib/"+last, "masked")
		}
	}
}

// Links of templates and links of instances count together.
func TestMixedHops(t *testing.T) {
	mixed := chain(4, "n", "@.service") + "etc/n4@i.service > m0.service\n" + chain(3, "m", ".service")
	checkFound(t, mixed+"run/m3.service", "n0@i.service", "m3.service", "run/m3.service")
	checkError(t, mixed+"etc/m3.service > m4.service\nrun/m4.service", "n0@i.service", api.ErrLink)
	checkFound(t, mixed+"etc/m3.service > m4.service\nrun/m4.service", "n1@i.service", "m4.service", "run/m4.service")
}

// P12.2: drop-in files.

func TestDropsOfAUnit(t *testing.T) {
	const own = "etc/a.service\n"
	checkFound(t, own, "a.service", "a.service", "etc/a.service")
	for _, place := range places {
		checkFound(t, own+place+"/a.service.d/x.conf", "a.service", "a.service", "etc/a.service", place+"/a.service.d/x.conf")
	}
	checkFound(t, own+"lib/a.service.d/a.conf\netc/a.service.d/c.conf\nrun/a.service.d/b.conf", "a.service", "a.service", "etc/a.service", "lib/a.service.d/a.conf", "run/a.service.d/b.conf", "etc/a.service.d/c.conf")
	files := []api.File{{Path: "etc/a.service"}, {Path: "etc/a.service.d/x.conf"}}
	checkFind(t, files, "a.service", api.Found{Name: "a.service", Path: "etc/a.service", Drops: []string{"etc/a.service.d/x.conf"}}, api.OK)
}

func TestDropsAscendByX(t *testing.T) {
	// By the bytes of X, without .conf: a point is behind - and before digits.
	sorted := []string{"-", "--", "-a", "0", "0-", "00", "10", "10-a", "9", "A", "A-", "A-b", "Z", "_", "a", "a-", "a-b", "a0", "aB", "a_", "aa", "b", "conf", "zzzzzzzzzzzzzzzzzzzz"}
	for _, unit := range []string{"a.service", "a@i.service"} {
		var text strings.Builder
		var want []string
		for i, x := range sorted {
			path := places[i*i%3] + "/" + unit + ".d/" + x + ".conf"
			want = append(want, path)
			text.WriteString(path + "\n")
		}
		checkFound(t, text.String()+"lib/"+unit, unit, unit, "lib/"+unit, want...)
	}
}

func TestDropsWithTheSameX(t *testing.T) {
	const own = "lib/a.service\nlib/a.service.d/0.conf\nlib/a.service.d/z.conf\n"
	for bits := 1; bits < 8; bits++ {
		text, first := own, ""
		for i, place := range places {
			if bits>>i&1 == 0 {
				continue
			}
			path := place + "/a.service.d/x.conf"
			text += path + "\n"
			if first == "" {
				first = path
			}
		}
		checkFound(t, text, "a.service", "a.service", "lib/a.service", "lib/a.service.d/0.conf", first, "lib/a.service.d/z.conf")
	}
	checkFound(t, "etc/a.service\netc/a.service.d/x.conf\nlib/a.service.d/X.conf\nlib/a.service.d/x.conf", "a.service", "a.service", "etc/a.service", "lib/a.service.d/X.conf", "etc/a.service.d/x.conf")
}

func TestDropsOfTheTemplate(t *testing.T) {
	for _, file := range []string{"run/t@.service", "run/t@i.service"} {
		checkFound(t, file+"\nlib/t@.service.d/x.conf", "t@i.service", "t@i.service", file, "lib/t@.service.d/x.conf")
		checkFound(t, file+"\nlib/t@.service.d/x.conf\nlib/t@i.service.d/w.conf\netc/t@.service.d/v.conf\nrun/t@i.service.d/y.conf", "t@i.service", "t@i.service", file, "etc/t@.service.d/v.conf", "lib/t@i.service.d/w.conf", "lib/t@.service.d/x.conf", "run/t@i.service.d/y.conf")
		// With the same X, those of the instance come first, then the places.
		for own := 0; own < 8; own++ {
			for template := 0; template < 8; template++ {
				text, want := file+"\n", []string{}
				for i, bits := range []int{own, template} {
					for j, place := range places {
						if bits>>j&1 == 0 {
							continue
						}
						path := place + "/" + []string{"t@i.service", "t@.service"}[i] + ".d/x.conf"
						text += path + "\n"
						want = append(want, path)
					}
				}
				checkFound(t, text, "t@i.service", "t@i.service", file, want[:min(1, len(want))]...)
			}
		}
	}
}

func TestDropsOfOthers(t *testing.T) {
	const drops = `
		etc/t@.service.d/x.conf
		etc/t@i.service.d/y.conf
		etc/t@j.service.d/z.conf
		etc/t.service.d/v.conf
		etc/t@.timer.d/w.conf
		etc/t.service.service.d/u.conf
		etc/tt.service.d/t.conf
		etc/tt@.service.d/t.conf
		etc/T.service.d/s.conf
		etc/t.service.wants/a.service > a.service
		etc/t@i.service.requires/a.service > a.service
		`
	checkFound(t, drops+"lib/t@.service", "t@.service", "t@.service", "lib/t@.service", "etc/t@.service.d/x.conf")
	checkFound(t, drops+"lib/t.service", "t.service", "t.service", "lib/t.service", "etc/t.service.d/v.conf")
	checkFound(t, drops+"lib/t@.service", "t@i.service", "t@i.service", "lib/t@.service", "etc/t@.service.d/x.conf", "etc/t@i.service.d/y.conf")
	checkFound(t, drops+"lib/t@.service", "t@k.service", "t@k.service", "lib/t@.service", "etc/t@.service.d/x.conf")
	checkFound(t, drops+"lib/t@.timer", "t@i.timer", "t@i.timer", "lib/t@.timer", "etc/t@.timer.d/w.conf")
	checkFound(t, drops+"lib/t.timer", "t.timer", "t.timer", "lib/t.timer")
	checkFound(t, drops+"lib/x@.service", "x@i.service", "x@i.service", "lib/x@.service")
}

// Drop-in files count for the name that links lead to, not for those before it.
func TestDropsBehindLinks(t *testing.T) {
	const drops = "etc/a.service.d/a.conf\netc/b.service.d/b.conf\netc/c.service.d/c.conf\netc/t@.service.d/t.conf\netc/t@i.service.d/ti.conf\netc/u@.service.d/u.conf\netc/u@i.service.d/ui.conf\n"
	checkFound(t, drops+"etc/c.service > b.service\netc/b.service > a.service\nlib/a.service", "c.service", "a.service", "lib/a.service", "etc/a.service.d/a.conf")
	checkFound(t, drops+"etc/u@.service > t@.service\nlib/t@.service", "u@i.service", "t@i.service", "lib/t@.service", "etc/t@.service.d/t.conf", "etc/t@i.service.d/ti.conf")
	checkFound(t, drops+"etc/u@.service > t@.service\nlib/t@.service", "u@.service", "t@.service", "lib/t@.service", "etc/t@.service.d/t.conf")
	checkFound(t, drops+"etc/u@i.service > a.service\nlib/a.service", "u@i.service", "a.service", "lib/a.service", "etc/a.service.d/a.conf")
	checkFound(t, drops+"etc/b.service > t@i.service\nlib/t@.service", "b.service", "t@i.service", "lib/t@.service", "etc/t@.service.d/t.conf", "etc/t@i.service.d/ti.conf")
}
