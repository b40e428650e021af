package enable_test

import (
	"slices"
	"testing"

	"matins/api"
	"matins/enable"
)

// changers are the functions of P13.3.
var changers = []changer{enable.Off, enable.Mask, enable.Unmask}

// P13.3: the errors that come first.

func TestChangeWrongFiles(t *testing.T) {
	for _, call := range changers {
		for _, file := range wrong {
			files := append(tree("etc/t.target.wants/b.service > b.service\netc/m.service > null"), file)
			for _, unit := range []string{"b.service", "m.service", "n.service", "x", ""} {
				checkRefused(t, call, files, unit, api.ErrForm)
			}
		}
		checkRefused(t, call, numbered(121), "a.service", api.ErrForm)
		checkRefused(t, call, numbered(121), "a", api.ErrForm)
		checkRefused(t, call, tree("etc/b.service > null\netc/b.service > null"), "b.service", api.ErrForm)
	}
}

func TestChangeNoNames(t *testing.T) {
	for _, call := range changers {
		for _, unit := range noNames {
			checkRefused(t, call, tree("etc/t.target.wants/a.service > a.service\netc/null.service > null\netc/a.service > b.service"), unit, api.ErrName)
			checkRefused(t, call, nil, unit, api.ErrName)
			checkRefused(t, call, numbered(120), unit, api.ErrName)
		}
	}
}

// P13.3: Off.

func TestOffFolders(t *testing.T) {
	for _, unit := range []string{"a.service", "a.socket", "a.timer", "a.target", "a@i.service"} {
		for _, other := range []string{"t.target", "t.service", "t@.target", "t@i.socket", "a.service", "a@i.service"} {
			for _, folder := range []string{".wants/", ".requires/"} {
				path := "etc/" + other + folder + unit
				checkRemoved(t, enable.Off, tree(path+" > "+unit), unit, path)
				// Whatever the link is.
				checkRemoved(t, enable.Off, tree(path+" > z.target"), unit, path)
				checkRefused(t, enable.Off, tree("run"+path[3:]+" > "+unit+"\nlib"+path[3:]+" > "+unit), unit, api.ErrNone)
			}
		}
	}
}

func TestOffAliases(t *testing.T) {
	for unit, aliases := range map[string][]string{
		"a.service": {"b.service", "a.a.service", "b@i.service"}, "a.timer": {"b.timer", "aa.timer"}, "a@.target": {"b@.target", "aa@.target"}, "a@i.socket": {"b.socket", "a@j.socket", "b@i.socket"},
	} {
		for _, alias := range aliases {
			checkRemoved(t, enable.Off, tree("etc/"+alias+" > "+unit), unit, "etc/"+alias)
			checkRefused(t, enable.Off, tree("run/"+alias+" > "+unit+"\nlib/"+alias+" > "+unit), unit, api.ErrNone)
		}
	}
	// Also a link to itself.
	checkRemoved(t, enable.Off, tree("etc/a.service > a.service\nlib/a.service"), "a.service", "etc/a.service")
}

func TestOffSeveral(t *testing.T) {
	const text = `
		lib/a.service = [Install] | WantedBy=t.target
		etc/z.service > a.service
		etc/t.target.requires/a.service > a.service
		run/z.service > a.service
		etc/u.target.wants/a.service > x.timer
		etc/t.target.wants/b.service > b.service
		etc/t.target.wants/a.service > a.service
		run/t.target.wants/a.service > a.service
		lib/t.target.requires/a.service > a.service
		etc/aa.service > a.service
		etc/b.service
		etc/c.service > b.service
		etc/d.service > null`
	checkRemoved(t, enable.Off, tree(text), "a.service", "etc/z.service", "etc/t.target.requires/a.service", "etc/u.target.wants/a.service", "etc/t.target.wants/a.service", "etc/aa.service")
	checkRemoved(t, enable.Off, tree(text), "b.service", "etc/t.target.wants/b.service", "etc/c.service")
	checkRefused(t, enable.Off, tree(text), "c.service", api.ErrNone)
	checkRefused(t, enable.Off, tree(text), "z.service", api.ErrNone)
}

func TestOffOtherFiles(t *testing.T) {
	const text = `
		etc/a.service = [Install] | WantedBy=t.target | Alias=b.service
		etc/b.service > c.service
		etc/a.service.d/x.conf
		etc/a.service.wants/b.service > b.service
		etc/a.service.requires/b.service > b.service
		etc/t.target.wants/aa.service > aa.service
		etc/t.target.wants/b.service > a.service
		etc/t.target.requires/b.service > a.service
		etc/t.target.requires/a.timer > a.service
		etc/t.target.wants/a@i.service > a@i.service
		etc/aa.service > aa@i.service
		etc/u@.service > a@.service
		etc/wants-a.service > wants.a.service
		etc/t.target.wants/x.a.service > x.a.service
		etc/t.target.d/a.conf
		etc/m.service > null`
	for _, unit := range []string{"a.service", "m.service", "null.service", "t.target", "wants-a.service", "a@j.service", "none.service", "x.service"} {
		checkRefused(t, enable.Off, tree(text), unit, api.ErrNone)
	}
	checkRemoved(t, enable.Off, tree(text), "a@.service", "etc/u@.service")
	checkRefused(t, enable.Off, tree("etc/a.service > null"), "a.service", api.ErrNone)
	checkRefused(t, enable.Off, nil, "a.service", api.ErrNone)
	checkRefused(t, enable.Off, numbered(120), "number0.target", api.ErrNone)
}

// Off does not ask what a name stands for, nor whether there is such a unit.
func TestOffTakesTheName(t *testing.T) {
	const text = "lib/a.service = wrong\netc/l.service > a.service\netc/t.target.wants/l.service > a.service\netc/t.target.wants/a.service > a.service\netc/t.target.wants/none.service > none.service\netc/n.service > null\netc/t.target.wants/n.service > n.service"
	checkRemoved(t, enable.Off, tree(text), "l.service", "etc/t.target.wants/l.service")
	checkRemoved(t, enable.Off, tree(text), "a.service", "etc/l.service", "etc/t.target.wants/a.service")
	checkRemoved(t, enable.Off, tree(text), "none.service", "etc/t.target.wants/none.service")
	checkRemoved(t, enable.Off, tree(text), "n.service", "etc/t.target.wants/n.service")
}

// What On added for a unit, Off removes; what it added for those of its Also,
// stays.
func TestOffBehindOn(t *testing.T) {
	files := tree("lib/a.service : WantedBy=t.target u.target | RequiredBy=t.target | Alias=b.service | Also=c.socket\nlib/c.socket : WantedBy=t.target\nlib/t@.timer : WantedBy=t.target | Alias=x.timer")
	on, err := enable.On(files, "a.service")
	if err != api.OK {
		t.Fatalf("error %d", err)
	}
	off, err := enable.Off(on, "a.service")
	if want := append(slices.Clone(files), tree("etc/t.target.wants/c.socket > c.socket")...); err != api.OK || !slices.Equal(off, want) {
		t.Errorf("Off = %q, %d, want %q", off, err, want)
	}
	for _, unit := range []string{"c.socket", "t@i.timer"} {
		on, err := enable.On(files, unit)
		if err != api.OK {
			t.Fatalf("error %d", err)
		}
		if off, err := enable.Off(on, unit); err != api.OK || !slices.Equal(off, files) {
			t.Errorf("Off = %q, %d, want %q", off, err, files)
		}
	}
}

// P13.3: Mask.

func TestMask(t *testing.T) {
	for _, unit := range []string{"a.service", "a.socket", "a.timer", "a.target", "a@.service", "a@i.service"} {
		mask := "etc/" + unit + " > null"
		checkAdded(t, enable.Mask, nil, unit, mask)
		checkAdded(t, enable.Mask, tree("run/"+unit+"\nlib/"+unit+" > null\netc/"+unit+".d/x.conf\netc/t.target > u.target\netc/x.target > null"), unit, mask)
		for _, file := range []string{"", " = wrong", " > null", " > " + unit} {
			checkRefused(t, enable.Mask, tree("lib/"+unit+"\netc/"+unit+file), unit, api.ErrTwice)
		}
	}
	checkAdded(t, enable.Mask, tree("lib/a.service\netc/t.target.wants/a.service > a.service\netc/b.service > a.service"), "a.service", "etc/a.service > null")
	checkRefused(t, enable.Mask, tree("lib/a.service\netc/b.service > a.service"), "b.service", api.ErrTwice)
	// The template and its instances are masked apart.
	checkAdded(t, enable.Mask, tree("etc/a@.service > null"), "a@i.service", "etc/a@i.service > null")
	checkAdded(t, enable.Mask, tree("etc/a@i.service > null"), "a@.service", "etc/a@.service > null")
}

func TestMaskFull(t *testing.T) {
	checkAdded(t, enable.Mask, numbered(119), "a.service", "etc/a.service > null")
	checkRefused(t, enable.Mask, numbered(120), "a.service", api.ErrFull)
	checkRefused(t, enable.Mask, numbered(120), "number1.target", api.ErrFull)
	checkRefused(t, enable.Mask, numbered(120), "number0.target", api.ErrTwice)
	checkRefused(t, enable.Mask, numbered(119), "number0.target", api.ErrTwice)
}

// P13.3: Unmask.

func TestUnmask(t *testing.T) {
	for _, unit := range []string{"a.service", "a.socket", "a.timer", "a.target", "a@.service", "a@i.service"} {
		mask := "etc/" + unit
		checkRemoved(t, enable.Unmask, tree(mask+" > null"), unit, mask)
		checkRemoved(t, enable.Unmask, tree("lib/"+unit+" > null\netc/b.target > null\nrun/"+unit+"\n"+mask+" > null\netc/"+unit+".d/x.conf\netc/t.target.wants/x.target > x.target"), unit, mask)
		for _, file := range []string{"etc/" + unit, "etc/" + unit + " = [Unit]", "etc/" + unit + " > " + unit, "run/" + unit + " > null", "lib/" + unit + " > null", "etc/" + unit + ".d/x.conf", "etc/b.service > null", "etc/a@j.service > null"} {
			checkRefused(t, enable.Unmask, tree(file), unit, api.ErrNone)
		}
	}
	// Neither the template's nor that behind a link.
	checkRefused(t, enable.Unmask, tree("etc/a@.service > null"), "a@i.service", api.ErrNone)
	checkRefused(t, enable.Unmask, tree("etc/a@i.service > null"), "a@.service", api.ErrNone)
	checkRefused(t, enable.Unmask, tree("etc/b.service > a.service\netc/a.service > null"), "b.service", api.ErrNone)
	checkRefused(t, enable.Unmask, tree("etc/a.service > null.service"), "a.service", api.ErrNone)
	checkRefused(t, enable.Unmask, nil, "a.service", api.ErrNone)
	checkRefused(t, enable.Unmask, numbered(120), "number0.target", api.ErrNone)
}

func TestUnmaskBehindMask(t *testing.T) {
	for _, n := range []int{0, 1, 50, 119} {
		files := numbered(n)
		masked, err := enable.Mask(files, "a@.service")
		if err != api.OK {
			t.Fatalf("error %d", err)
		}
		if back, err := enable.Unmask(masked, "a@.service"); err != api.OK || !slices.Equal(back, files) {
			t.Errorf("Unmask = %s, %d, want %s", show(back), err, show(files))
		}
		checkRefused(t, enable.Mask, masked, "a@.service", api.ErrTwice)
		checkRefused(t, enable.Unmask, files, "a@.service", api.ErrNone)
	}
}
