package disk_test

import (
	"slices"
	"strings"
	"testing"

	"matins/api"
	"matins/disk"
)

// checkLinks checks what Links returns, each list given as a text with blanks
// between the names, and that the order of the files does not matter.
func checkLinks(t *testing.T, files []api.File, unit, wants, requires string) {
	t.Helper()
	files = slices.Clone(files)
	for range 2 {
		for range max(1, len(files)) {
			w, r := disk.Links(files, unit)
			if strings.Join(w, " ") != wants || strings.Join(r, " ") != requires {
				t.Errorf("Links(%.2000q, %.300q) = %q, %q, want %q, %q", files, unit, w, r, wants, requires)
				return
			}
			if len(files) > 0 {
				files = append(files[1:], files[0])
			}
		}
		slices.Reverse(files)
	}
}

// P12.3

func TestLinksOfAUnit(t *testing.T) {
	checkLinks(t, tree("etc/t.target.wants/a.service > a.service"), "t.target", "a.service", "")
	checkLinks(t, tree("etc/t.target.requires/a.service > a.service"), "t.target", "", "a.service")
	files := tree(`
		lib/t.target.wants/b.service > b.service
		etc/t.target.wants/c.timer > c.timer
		run/t.target.wants/a@i.socket > a@i.socket
		lib/t.target.requires/e.target > e.target
		run/t.target.requires/d.target > d.target
		etc/t.target
		lib/t.target.d/x.conf`)
	checkLinks(t, files, "t.target", "a@i.socket b.service c.timer", "d.target e.target")
	for _, unit := range []string{"a@i.socket", "b.service", "c.timer", "d.target", "x.target"} {
		checkLinks(t, files, unit, "", "")
	}
}

func TestEachPlaceCounts(t *testing.T) {
	for bits := 1; bits < 8; bits++ {
		var text string
		for i, place := range places {
			if bits>>i&1 == 1 {
				text += place + "/t.target.wants/a.service > a.service\n" + place + "/t.target.requires/b.service > b.service\n"
			}
		}
		// Each name once, however many directories have it.
		checkLinks(t, tree(text), "t.target", "a.service", "b.service")
		text += "lib/t.target.wants/0.service > 0.service\nlib/t.target.requires/c.service > c.service"
		checkLinks(t, tree(text), "t.target", "0.service a.service", "b.service c.service")
	}
}

// The names are those of the paths, whatever the links are.
func TestWhatLinksSay(t *testing.T) {
	checkLinks(t, tree(`
		etc/t.target.wants/b.service > z.timer
		run/t.target.wants/b.service > y.service
		etc/t.target.wants/a.service > a@.service
		etc/t.target.requires/d.service > b.service
		etc/t.target.requires/c.service > t.target`), "t.target", "a.service b.service", "c.service d.service")
	// Nor whether there are such units, or what their files are.
	checkLinks(t, tree(`
		etc/t.target > null
		etc/a.service > null
		etc/b.service > c.service
		etc/t.target.wants/a.service > a.service
		etc/t.target.wants/b.service > b.service
		etc/t.target.wants/t.target > t.target`), "t.target", "a.service b.service t.target", "")
}

func TestBothLists(t *testing.T) {
	checkLinks(t, tree(`
		etc/t.target.wants/a.service > a.service
		lib/t.target.requires/a.service > a.service
		etc/t.target.requires/b.service > b.service
		etc/t.target.wants/c.service > c.service`), "t.target", "a.service c.service", "a.service b.service")
}

func TestLinksAscendByBytes(t *testing.T) {
	sorted := []string{"-.service", "..service", "0.service", "10.service", "9.service", ":.service", "A.service", "B.service", `\.service`, "_.service", "a-b.service", "a.b.service", "a.service", "a.socket", "a.target", "a.timer", "a0.service", "a@i.service", "aB.service", "a_.service", "aa.service", "b.service"}
	for _, folder := range []string{"wants", "requires"} {
		var text string
		for i, other := range sorted {
			text += places[i*i%3] + "/t.target." + folder + "/" + other + " > " + other + "\n"
		}
		all := strings.Join(sorted, " ")
		if folder == "wants" {
			checkLinks(t, tree(text), "t.target", all, "")
		} else {
			checkLinks(t, tree(text), "t.target", "", all)
		}
	}
}

// Each name has the links of its own folders alone: an instance none of its
// template, and what links to a unit none of that.
func TestLinksOfOthers(t *testing.T) {
	files := tree(`
		lib/t@.service
		etc/u.service > t.service
		etc/t@.service.wants/a.service > a.service
		etc/t@i.service.wants/b.service > b.service
		etc/t.service.wants/c.service > c.service
		etc/tt.service.wants/d.service > d.service
		etc/t.service.service.wants/e.service > e.service
		etc/T.service.wants/f.service > f.service
		etc/t.socket.wants/g.service > g.service
		etc/t@.service.requires/h.service > h.service`)
	checkLinks(t, files, "t@.service", "a.service", "h.service")
	checkLinks(t, files, "t@i.service", "b.service", "")
	checkLinks(t, files, "t@j.service", "", "")
	checkLinks(t, files, "t.service", "c.service", "")
	checkLinks(t, files, "u.service", "", "")
	checkLinks(t, files, "t.socket", "g.service", "")
	checkLinks(t, files, "t.timer", "", "")
}

func TestLinksOfNoNames(t *testing.T) {
	files := tree("etc/t.target.wants/a.service > a.service\netc/t.target.requires/a.service > a.service\netc/t.target.d/x.conf\netc/t.target")
	for _, unit := range append([]string{"t.target.wants", "t.target.wants/a.service", "t.target.d", "etc/t.target", "/t.target", "t.target/", "t.target ", "t.targe", "*", "../etc/t.target"}, noNames...) {
		checkLinks(t, files, unit, "", "")
		checkLinks(t, nil, unit, "", "")
	}
}

func TestLinksInWrongFiles(t *testing.T) {
	sound := tree("etc/t.target.wants/a.service > a.service\netc/t.target.requires/b.service > b.service")
	checkLinks(t, sound, "t.target", "a.service", "b.service")
	for _, file := range []api.File{{}, {Path: "etc/a"}, {Path: "etc/t.target.wants/a.service", Link: "b.service"}, {Path: "etc/t.target.wants/c.service"}, {Path: "etc/t.target.wants/c@.service", Link: "c@.service"}, {Path: "etc/a.service", Text: strings.Repeat("x", 20001)}} {
		checkLinks(t, append(slices.Clone(sound), file), "t.target", "", "")
	}
	checkLinks(t, append(numbered(118), sound...), "t.target", "a.service", "b.service")
	checkLinks(t, append(numbered(119), sound...), "t.target", "", "")
}
