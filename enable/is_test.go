package enable_test

import (
	"testing"

	"matins/enable"
)

// P13.4: each word, where several conditions hold.

func TestIsWrong(t *testing.T) {
	for _, file := range wrong {
		files := append(tree("lib/b.target : WantedBy=t.target\netc/m.target > null\netc/l.target > b.target\netc/t.target.wants/b.target > b.target"), file)
		for _, unit := range []string{"b.target", "m.target", "l.target", "none.target", "x", ""} {
			checkIs(t, files, unit, "wrong")
		}
	}
	checkIs(t, numbered(121), "number0.target", "wrong")
	for _, unit := range noNames {
		checkIs(t, tree("lib/a.service : WantedBy=t.target\netc/t.target.wants/a.service > a.service"), unit, "wrong")
		checkIs(t, nil, unit, "wrong")
	}
	const text = "etc/a.target > none.target\nlib/b.target > b.target\nlib/a.target\nrun/c.target > a.target\netc/t.target.wants/a.target > a.target\netc/t.target.wants/c.target > c.target"
	for _, unit := range []string{"a.target", "b.target", "c.target"} {
		checkIs(t, tree(text), unit, "wrong")
	}
}

func TestIsMissing(t *testing.T) {
	for _, unit := range []string{"a.target", "a@.target", "a@i.target", "a.service"} {
		checkIs(t, nil, unit, "missing")
		// Also if links to it would enable it.
		checkIs(t, tree("etc/t.target.wants/a.target > a.target\netc/t.target.requires/a@i.target > a@i.target\netc/b.target\nlib/a.target.d/x.conf\nlib/a.service.requires/b.service > b.service"), unit, "missing")
	}
}

func TestIsMasked(t *testing.T) {
	const text = `
		etc/a.target > null
		run/a.target : WantedBy=t.target
		etc/t.target.wants/a.target > a.target
		etc/b.target > a.target
		etc/t.target.wants/b.target > b.target
		run/c@.target > null
		etc/c@.target.d/x.conf = wrong
		etc/d@.target > c@.target
		lib/t.target.wants/x.target > x.target`
	for _, unit := range []string{"a.target", "b.target", "c@.target", "c@i.target", "d@.target", "d@i.target"} {
		checkIs(t, tree(text), unit, "masked")
	}
	checkIs(t, tree("etc/a.target\nrun/a.target > null"), "a.target", "static")
}

func TestIsAlias(t *testing.T) {
	const text = `
		lib/a.target : WantedBy=t.target
		etc/b.target > a.target
		run/c.target > b.target
		etc/t.target.wants/b.target > b.target
		etc/t.target.wants/a.target > a.target
		etc/t.target.wants/d@i.target > d@i.target
		lib/t@.target
		etc/d@.target > t@.target
		lib/bad.target = wrong
		lib/e.target > bad.target
		etc/t@k.target > t@j.target`
	for _, unit := range []string{"b.target", "c.target", "d@.target", "d@i.target", "e.target", "t@k.target"} {
		checkIs(t, tree(text), unit, "alias")
	}
	checkIs(t, tree(text), "t@i.target", "static")
}

// A unit is enabled however it came to that, whatever its files are.
func TestIsEnabled(t *testing.T) {
	for _, file := range []string{"lib/a.target : WantedBy=t.target", "lib/a.target", "run/a.target = wrong", "lib/a.target = [Unit] | Odd=1", "etc/a.target : DefaultInstance=x"} {
		for _, link := range []string{"etc/t.target.wants/a.target > a.target", "etc/x.service.requires/a.target > a.target", "etc/t.target.wants/a.target > b.target", "etc/b.target > a.target"} {
			checkIs(t, tree(file+"\n"+link), "a.target", "enabled")
		}
	}
	// Templates and instances.
	const text = "lib/t@.target\netc/u@.target > t@.target\netc/x.target > t@i.target\netc/t.target.wants/t@j.target > t@.target"
	for _, unit := range []string{"t@.target", "t@i.target", "t@j.target"} {
		checkIs(t, tree(text), unit, "enabled")
	}
	checkIs(t, tree(text), "t@k.target", "static")
	// Links that Off leaves.
	checkIs(t, tree("lib/a.target\nrun/t.target.wants/a.target > a.target\nlib/b.target > a.target\netc/t.target.wants/b.target > a.target\netc/a.target.wants/x.target > x.target"), "a.target", "static")
}

func TestIsBad(t *testing.T) {
	for _, text := range []string{
		"lib/a.service = x", "lib/a.service = [Install] | WantedBy=t.target", "lib/a.service : WantedBy=t", "lib/a.service : Alias=t.service\nlib/a.service.d/x.conf = [", "lib/a.service : Odd=1", "lib/a.service", "lib/a.service : Also=%",
	} {
		checkIs(t, tree(text), "a.service", "bad")
		checkIs(t, tree(text+"\nrun/t.target.wants/a.service > a.service"), "a.service", "bad")
	}
	checkIs(t, tree("lib/a@.target : WantedBy=t.target"), "a@.target", "bad")
	checkIs(t, tree("lib/a@.target"), "a@.target", "bad")
	checkIs(t, tree("lib/a@.target : WantedBy=%I.target"), "a@i-i.target", "bad")
}

func TestIsStaticOrDisabled(t *testing.T) {
	for _, file := range []string{"lib/a.target", "etc/a.target : DefaultInstance=i", "lib/a.target : WantedBy=b.target | WantedBy=", "run/a.target = [Unit] | Wants=b.target"} {
		checkIs(t, tree(file), "a.target", "static")
		for _, line := range []string{"WantedBy=t.target", "RequiredBy=t.target", "Alias=t.target", "Also=t.target", "Alias=t.timer", "Also=a.target"} {
			checkIs(t, tree(file+"\nlib/a.target.d/x.conf = [Install] | "+line), "a.target", "disabled")
		}
	}
	for _, key := range []string{"WantedBy", "RequiredBy", "Alias", "Also"} {
		checkIs(t, tree("lib/a.service : "+key+"=t.target"), "a.service", "disabled")
		checkIs(t, tree("lib/a.service : "+key+"=t.target\nlib/a.service.d/x.conf = [Install] | "+key+"="), "a.service", "static")
		checkIs(t, tree("lib/a@.service : "+key+"=%i.target"), "a@i.service", "disabled")
	}
	// Whether On would do anything is another question.
	checkIs(t, tree("lib/a.target : Alias=b.target\netc/b.target"), "a.target", "disabled")
	checkIs(t, tree("lib/a.target : Also=b.target\nlib/b.target : WantedBy=c.target\netc/c.target.wants/b.target > b.target"), "a.target", "disabled")
}

func TestIsBehindOnAndMask(t *testing.T) {
	files := tree("lib/a.service : WantedBy=t.target | Alias=b.service | Also=c.socket d.target\nlib/c.socket : RequiredBy=a.service\nlib/d.target : Also=a.service")
	on, _ := enable.On(files, "a.service")
	masked, _ := enable.Mask(on, "a.service")
	for _, x := range []struct{ unit, before, on, masked string }{
		{"a.service", "disabled", "enabled", "masked"}, {"b.service", "missing", "alias", "masked"}, {"c.socket", "disabled", "enabled", "enabled"}, {"d.target", "disabled", "disabled", "disabled"}, {"e.target", "missing", "missing", "missing"},
	} {
		checkIs(t, files, x.unit, x.before)
		checkIs(t, on, x.unit, x.on)
		checkIs(t, masked, x.unit, x.masked)
	}
}
