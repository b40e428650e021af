package enable_test

import (
	"slices"
	"strings"
	"testing"

	"matins/api"
	"matins/disk"
	"matins/enable"
)

// checkOn checks that On adds links, which are given as a text like that for tree
// and may all be there afterwards.
func checkOn(t *testing.T, text, unit, added string) {
	t.Helper()
	files := tree(text)
	checkAdded(t, enable.On, files, unit, added)
	if on, _ := enable.On(files, unit); !disk.May(on) {
		t.Errorf("with %s and %q: the files %s may not be", show(files), unit, show(on))
	}
}

func checkNotOn(t *testing.T, text, unit string, want api.Errno) {
	t.Helper()
	checkRefused(t, enable.On, tree(text), unit, want)
}

// P13.2: the faults of Read.

func TestOnFaultsOfRead(t *testing.T) {
	for _, file := range wrong {
		checkRefused(t, enable.On, append(tree("lib/b.target : WantedBy=c.target"), file), "b.target", api.ErrForm)
		checkRefused(t, enable.On, append(tree("lib/b.target : WantedBy=c.target"), file), "x", api.ErrForm)
	}
	for _, unit := range noNames {
		checkNotOn(t, "lib/a.service : WantedBy=c.target", unit, api.ErrName)
		checkNotOn(t, "", unit, api.ErrName)
	}
	for _, x := range []struct {
		text string
		want api.Errno
	}{
		{"", api.ErrNone},
		{"lib/a.service.d/x.conf = [Service] | ExecStart=/x | [Install] | WantedBy=b.target", api.ErrNone},
		{"lib/a.service > b.service", api.ErrLink},
		{"etc/a.service > null\nlib/a.service : WantedBy=b.target", api.ErrMasked},
		{"lib/a.service : WantedBy=b.target | x", api.ErrLine},
		{"lib/a.service : WantedBy=b.target | [Odd!]", api.ErrSection},
		{"lib/a.service : WantedBy=b.target\nlib/a.service.d/x.conf = [Install] | Alias=\x7f", api.ErrForm},
		{"lib/a.service : WantedBy=b.target\nlib/a.service.d/x.conf = [Install] | Alias=" + strings.Repeat("x", 400), api.ErrLong},
		{"lib/a.service : WantedBy=b.target | Odd=1", api.ErrKey},
		{"lib/a.service : WantedBy=b.target | Also=x", api.ErrValue},
		{"lib/a.service : WantedBy=b.target | Also=x@.service", api.ErrValue},
		{"lib/a.service : WantedBy=b.target | Alias=%z", api.ErrSpec},
		{"lib/a.service : WantedBy=b.target | [Service] | ExecStart=/y", api.ErrTwice},
		{"lib/a.service = [Install] | WantedBy=b.target", api.ErrNone},
	} {
		checkNotOn(t, x.text, "a.service", x.want)
		checkNotOn(t, x.text+"\netc/c.service.d/x.conf = x\nlib/c.service > a.service", "c.service", linkError(x.want, x.text))
	}
	checkNotOn(t, "lib/a@.service : WantedBy=b.target", "a@.service", api.ErrName)
}

// linkError returns the error for a link to a unit, where that unit's own is err:
// a link to a unit without a file leads nowhere.
func linkError(err api.Errno, text string) api.Errno {
	if err == api.ErrNone && !strings.HasPrefix(text, "lib/a.service =") {
		return api.ErrLink
	}
	return err
}

// P13.2: the links that a unit requests.

func TestOnEachKey(t *testing.T) {
	for _, place := range places {
		for _, kind := range []string{".service", ".socket", ".timer", ".target"} {
			unit := "a" + kind
			file := place + "/" + unit + " : "
			checkOn(t, file+"WantedBy=t.target", unit, "etc/t.target.wants/"+unit+" > "+unit)
			checkOn(t, file+"RequiredBy=t.target", unit, "etc/t.target.requires/"+unit+" > "+unit)
			checkOn(t, file+"Alias=b"+kind, unit, "etc/b"+kind+" > "+unit)
			for _, other := range []string{"t.service", "t.socket", "t.timer", "t@i.target"} {
				checkOn(t, file+"WantedBy="+other, unit, "etc/"+other+".wants/"+unit+" > "+unit)
				checkOn(t, file+"RequiredBy="+other, unit, "etc/"+other+".requires/"+unit+" > "+unit)
			}
		}
	}
	checkOn(t, "lib/a.service : Alias=b@i.service", "a.service", "etc/b@i.service > a.service")
}

func TestOnSeveralLinks(t *testing.T) {
	checkOn(t, "lib/a.service : WantedBy=z.target b.target | RequiredBy=z.target c.target | WantedBy=y.target | Alias=z.service aa.service x.service", "a.service", `
		etc/aa.service > a.service
		etc/b.target.wants/a.service > a.service
		etc/c.target.requires/a.service > a.service
		etc/x.service > a.service
		etc/y.target.wants/a.service > a.service
		etc/z.service > a.service
		etc/z.target.requires/a.service > a.service
		etc/z.target.wants/a.service > a.service`)
	// Paths ascend by their bytes, as a whole.
	checkOn(t, "lib/a.timer : WantedBy=t.target t-.target t.target.target t@i.target T.target _.target t:.target 0.target | Alias=t.timer t.target.timer t.target.wants.timer", "a.timer", `
		etc/0.target.wants/a.timer > a.timer
		etc/T.target.wants/a.timer > a.timer
		etc/_.target.wants/a.timer > a.timer
		etc/t-.target.wants/a.timer > a.timer
		etc/t.target.target.wants/a.timer > a.timer
		etc/t.target.timer > a.timer
		etc/t.target.wants.timer > a.timer
		etc/t.target.wants/a.timer > a.timer
		etc/t.timer > a.timer
		etc/t:.target.wants/a.timer > a.timer
		etc/t@i.target.wants/a.timer > a.timer`)
	// Of each list as many as there may be.
	var added strings.Builder
	for _, folder := range []string{"requires", "wants"} {
		for i := range 10 {
			added.WriteString("etc/t" + string(rune('0'+i)) + ".target." + folder + "/a.target > a.target\n")
		}
	}
	lines := strings.Split(strings.TrimSpace(added.String()), "\n")
	sorted := ""
	for i := range 10 {
		sorted += lines[i] + "\n" + lines[10+i] + "\n"
	}
	all := "t0.target t1.target t2.target t3.target t4.target t5.target t6.target t7.target t8.target t9.target"
	checkOn(t, "lib/a.target : WantedBy="+all+" | RequiredBy="+all, "a.target", sorted)
}

// The links are to the unit that the name stands for.
func TestOnLinksAndInstances(t *testing.T) {
	const text = `
		etc/l.service > a.service
		lib/a.service : WantedBy=%p.target | Alias=b.service
		lib/t@.service : WantedBy=%i.target | RequiredBy=%p@%i.socket | Alias=%p-%i.service
		etc/u@.service > t@.service`
	const a, ti = "etc/a.target.wants/a.service > a.service\netc/b.service > a.service", "etc/i.target.wants/t@i.service > t@i.service\netc/t-i.service > t@i.service\netc/t@i.socket.requires/t@i.service > t@i.service"
	checkOn(t, text, "a.service", a)
	checkOn(t, text, "l.service", a)
	checkOn(t, text, "t@i.service", ti)
	checkOn(t, text, "u@i.service", ti)
}

// What drop-in files say of it counts too.
func TestOnDropIns(t *testing.T) {
	checkOn(t, "lib/a.target : WantedBy=b.target c.target\nlib/a.target.d/x.conf = [Install] | WantedBy= | WantedBy=d.target", "a.target", "etc/d.target.wants/a.target > a.target")
	checkOn(t, "lib/a.target\nrun/a.target.d/x.conf = [Install] | Alias=d.target", "a.target", "etc/d.target > a.target")
	checkNotOn(t, "lib/a.target : WantedBy=b.target\nlib/a.target.d/x.conf = [Install] | WantedBy=", "a.target", api.ErrNone)
}

// P13.2: links that are there already.

func TestOnLeavesWhatIsThere(t *testing.T) {
	const a = "lib/a.service : WantedBy=t.target u.target | RequiredBy=t.target | Alias=b.service c.service\n"
	const links = "etc/b.service > a.service\netc/c.service > a.service\netc/t.target.requires/a.service > a.service\netc/t.target.wants/a.service > a.service\netc/u.target.wants/a.service > a.service"
	checkOn(t, a, "a.service", links)
	all := strings.Split(links, "\n")
	for bits := range 1 << len(all) {
		there, missing := a, ""
		for i, link := range all {
			if bits>>i&1 == 1 {
				there += link + "\n"
			} else {
				missing += link + "\n"
			}
		}
		checkOn(t, there, "a.service", missing)
		// In other directories they are not there.
		if elsewhere := strings.ReplaceAll(there, "etc/", "run/"); bits&3 == 0 {
			checkOn(t, elsewhere, "a.service", links)
		}
	}
}

// The link of a file in a folder does not count.
func TestOnOtherLinksInFolders(t *testing.T) {
	checkOn(t, "lib/a.service : WantedBy=t.target u.target | RequiredBy=t.target\netc/t.target.wants/a.service > b.service\netc/t.target.requires/a.service > c@.timer", "a.service", "etc/u.target.wants/a.service > a.service")
	checkOn(t, "lib/a.service : WantedBy=t.target\netc/t.target.wants/a.service > b.service", "a.service", "")
}

func TestOnAgain(t *testing.T) {
	files := tree("lib/a.service : WantedBy=t.target | Alias=b.service | Also=c.socket\nlib/c.socket : RequiredBy=a.service | Also=a.service")
	on, err := enable.On(files, "a.service")
	if err != api.OK || len(on) != 5 {
		t.Errorf("On = %q, %d", on, err)
	}
	for _, unit := range []string{"a.service", "b.service", "c.socket"} {
		checkAdded(t, enable.On, on, unit, "")
	}
}

// P13.2: Also.

func TestOnAlso(t *testing.T) {
	const text = `
		lib/a.service : WantedBy=t.target | Also=b.socket c.timer
		lib/b.socket : WantedBy=s.target
		lib/c.timer : RequiredBy=s.target | Alias=cc.timer
		lib/d.target : WantedBy=s.target`
	checkOn(t, text, "a.service", "etc/cc.timer > c.timer\netc/s.target.requires/c.timer > c.timer\netc/s.target.wants/b.socket > b.socket\netc/t.target.wants/a.service > a.service")
	checkOn(t, text, "b.socket", "etc/s.target.wants/b.socket > b.socket")
	// A unit that requests nothing itself.
	checkOn(t, "lib/a.target : Also=b.target\nlib/b.target : WantedBy=c.target", "a.target", "etc/c.target.wants/b.target > b.target")
	// Several lines, and drop-in files.
	checkOn(t, "lib/a.target : Also=b.target | Also=c.target\nlib/b.target : Alias=x.target\nlib/c.target : Alias=y.target\nlib/d.target : Alias=z.target\nlib/a.target.d/x.conf = [Install] | Also=d.target", "a.target", "etc/x.target > b.target\netc/y.target > c.target\netc/z.target > d.target")
	checkOn(t, "lib/a.target : Also=b.target\nlib/b.target\nlib/b.target.d/x.conf = [Install] | Alias=x.target", "a.target", "etc/x.target > b.target")
}

func TestOnAlsoOfAlso(t *testing.T) {
	const text = `
		lib/a.target : Also=b.target
		run/b.target : Also=c.target | WantedBy=y.target
		etc/c.target : Also=d.target e.target
		lib/d.target : WantedBy=x.target
		lib/e.target : RequiredBy=w.target | Also=f.target a.target
		lib/f.target : Alias=ff.target`
	const behindC = "etc/ff.target > f.target\netc/w.target.requires/e.target > e.target\netc/x.target.wants/d.target > d.target\n"
	const behindB = behindC + "etc/y.target.wants/b.target > b.target"
	for unit, added := range map[string]string{"a.target": behindB, "b.target": behindB, "c.target": behindB, "d.target": "etc/x.target.wants/d.target > d.target", "e.target": behindB, "f.target": "etc/ff.target > f.target"} {
		checkOn(t, text, unit, added)
	}
}

// Units that name themselves, or one another, count once.
func TestOnAlsoRound(t *testing.T) {
	checkOn(t, "lib/a.target : Also=a.target | WantedBy=t.target", "a.target", "etc/t.target.wants/a.target > a.target")
	checkNotOn(t, "lib/a.target : Also=a.target", "a.target", api.ErrNone)
	checkNotOn(t, "lib/a.target : Also=b.target\nlib/b.target : Also=a.target b.target", "a.target", api.ErrNone)
	const text = "lib/a.target : Also=b.target c.target | Alias=x.target\nlib/b.target : Also=a.target c.target | Alias=y.target\nlib/c.target : Also=b.target a.target c.target | Alias=z.target"
	for _, unit := range []string{"a.target", "b.target", "c.target"} {
		checkOn(t, text, unit, "etc/x.target > a.target\netc/y.target > b.target\netc/z.target > c.target")
	}
}

// A unit counts once under all its names.
func TestOnAlsoLinks(t *testing.T) {
	checkOn(t, "lib/a.target : Also=l.target\netc/l.target > b.target\nlib/b.target : WantedBy=t.target", "a.target", "etc/t.target.wants/b.target > b.target")
	checkOn(t, "lib/a.target : Also=l.target m.target b.target | Alias=l.target\netc/l.target > a.target\nrun/m.target > b.target\nlib/b.target : Alias=x.target | Also=l.target m.target", "l.target", "etc/x.target > b.target")
	checkOn(t, "lib/a.target : Also=u@i.target t@i.target\netc/u@.target > t@.target\nlib/t@.target : Alias=%p-%i.target", "a.target", "etc/t-i.target > t@i.target")
}

// What Read refuses is skipped, and its own Also with it.
func TestOnSkipsFaults(t *testing.T) {
	const rest = `
		lib/masked.target : WantedBy=t.target | Also=x.target
		etc/masked.target > null
		lib/bad.target : WantedBy=t.target | Odd=1 | Also=x.target
		lib/line.target : WantedBy=t.target | Odd | Also=x.target
		lib/drop.target : WantedBy=t.target | Also=x.target
		lib/drop.target.d/x.conf = [
		lib/nowhere.target > none.target
		lib/round.target > round.target
		lib/idle.service = [Install] | WantedBy=t.target | Also=x.target
		lib/tomasked.target > masked.target
		lib/x.target : WantedBy=t.target`
	names := "masked.target bad.target line.target drop.target nowhere.target round.target idle.service tomasked.target none.target"
	checkNotOn(t, "lib/a.target : Also="+names+rest, "a.target", api.ErrNone)
	checkOn(t, "lib/a.target : WantedBy=s.target | Also="+names+rest, "a.target", "etc/s.target.wants/a.target > a.target")
	checkOn(t, "lib/a.target : Also="+names+" b.target\nlib/b.target : WantedBy=s.target | Also="+names+rest, "a.target", "etc/s.target.wants/b.target > b.target")
	checkOn(t, "lib/a.target : Also="+names+" x.target"+rest, "a.target", "etc/t.target.wants/x.target > x.target")
}

// Each instance of a template may name the next one, as long as the names are
// short enough.
func TestOnAlsoInstances(t *testing.T) {
	var added string
	for length := 1; len("t@.target")+length < 60; length++ {
		instance := strings.Repeat("i", length)
		added += "etc/x" + instance + ".target > t@" + instance + ".target\n"
	}
	// Of the last one the Also is no unit name, so that it is skipped.
	checkOn(t, "lib/t@.target : Alias=x%i.target | Also=%p@%ii.target", "t@i.target", added)
	checkOn(t, "lib/t@.target : WantedBy=%i.target | Also=u@%i.target\nlib/u@.target : RequiredBy=%p.target | Also=t@%i.target", "t@i.target", "etc/i.target.wants/t@i.target > t@i.target\netc/u.target.requires/u@i.target > u@i.target")
}

// P13.2: ErrNone.

func TestOnWithoutLinks(t *testing.T) {
	for _, text := range []string{
		"lib/a.target", "lib/a.target : DefaultInstance=i", "lib/a.target : WantedBy= | RequiredBy= | Alias= | Also=", "lib/a.target : Also=b.target", "lib/a.target : Also=b.target\nlib/b.target : DefaultInstance=x | Also=c.target",
		"lib/a.target\nlib/b.target : WantedBy=a.target | Also=a.target", "lib/a.target\netc/t.target.wants/a.target > a.target\netc/b.target > a.target", "lib/a.target = [Unit] | Wants=b.target | Description=WantedBy=b.target",
	} {
		checkNotOn(t, text, "a.target", api.ErrNone)
	}
	// However many files there are.
	checkRefused(t, enable.On, append(numbered(119), tree("lib/a.target")...), "a.target", api.ErrNone)
}

// P13.2: ErrTwice.

func TestOnAliasThatIsThere(t *testing.T) {
	const a = "lib/a.target : WantedBy=t.target | Alias=b.target c.target\n"
	for _, alias := range []string{"etc/b.target", "etc/c.target"} {
		for _, file := range []string{alias, alias + " = [Unit]", alias + " > null", alias + " > b.target", alias + " > c.target", alias + " > d.target", alias + " > a@i.target", alias + " > aa.target"} {
			checkNotOn(t, a+file, "a.target", api.ErrTwice)
			checkNotOn(t, "lib/x.target : WantedBy=t.target | Also=a.target\n"+a+file, "x.target", api.ErrTwice)
			// Only files in etc count.
			for _, place := range []string{"run", "lib"} {
				checkOn(t, a+strings.Replace(file, "etc", place, 1), "a.target", "etc/b.target > a.target\netc/c.target > a.target\netc/t.target.wants/a.target > a.target")
			}
		}
	}
	// An instance of the alias, its template, and folders are other files.
	checkOn(t, a+"etc/b@.target > null\netc/b@i.target > null\netc/b.service > null\netc/b.target.d/x.conf = [Unit]\netc/b.target.wants/c.target > c.target\netc/t.target.wants/b.target > b.target", "a.target", "etc/b.target > a.target\netc/c.target > a.target\netc/t.target.wants/a.target > a.target")
}

// An alias may be the unit's own name, as far as no file has its path.
func TestOnAliasOfItself(t *testing.T) {
	checkNotOn(t, "etc/a.target : Alias=a.target", "a.target", api.ErrTwice)
	checkOn(t, "run/a.target : Alias=a.target", "a.target", "etc/a.target > a.target")
	checkOn(t, "run/t@.target : Alias=t@i.target", "t@i.target", "etc/t@i.target > t@i.target")
}

func TestOnAliasOfTwoUnits(t *testing.T) {
	checkNotOn(t, "lib/a.target : Alias=x.target | Also=b.target\nlib/b.target : Alias=x.target", "a.target", api.ErrTwice)
	checkNotOn(t, "lib/a.target : Alias=w.target x.target | Also=b.target\nlib/b.target : Alias=y.target | Also=c.target\nlib/c.target : Alias=z.target w.target", "a.target", api.ErrTwice)
	checkNotOn(t, "lib/a.target : Also=b.target c.target\nlib/b.target : Alias=x.target\nlib/c.target : Alias=x.target", "a.target", api.ErrTwice)
	checkNotOn(t, "lib/t@.target : Alias=x.target | Also=t@j.target", "t@i.target", api.ErrTwice)
	// Also where the path has the link of one of them.
	checkNotOn(t, "lib/a.target : Alias=x.target | Also=b.target\nlib/b.target : Alias=x.target\netc/x.target > a.target", "a.target", api.ErrTwice)
	checkNotOn(t, "lib/a.target : Alias=x.target | Also=b.target\nlib/b.target : Alias=x.target\netc/x.target > b.target", "a.target", api.ErrTwice)
	// A unit that is skipped requests nothing, and one that nothing names neither.
	checkOn(t, "lib/a.target : Alias=x.target | Also=b.target\nlib/b.target : Alias=x.target | Odd=1\nlib/c.target : Alias=x.target", "a.target", "etc/x.target > a.target")
	// The same unit requests the same link.
	checkOn(t, "lib/a.target : Alias=x.target x.target | Alias=x.target | Also=a.target l.target\nrun/l.target > a.target", "a.target", "etc/x.target > a.target")
	// In folders, each unit has a path of its own.
	checkOn(t, "lib/a.target : WantedBy=x.target | Also=b.target\nlib/b.target : WantedBy=x.target", "a.target", "etc/x.target.wants/a.target > a.target\netc/x.target.wants/b.target > b.target")
}

func TestOnAliasOfAnotherKind(t *testing.T) {
	kinds := []string{".service", ".socket", ".timer", ".target"}
	for _, kind := range kinds {
		for _, other := range kinds {
			text := "lib/a" + kind + " : WantedBy=t.target | Alias=b" + kind + " a" + other
			if kind != other {
				checkNotOn(t, text, "a"+kind, api.ErrTwice)
				checkNotOn(t, "lib/x.target : WantedBy=t.target | Also=a"+kind+"\n"+text, "x.target", api.ErrTwice)
				// A link like the one that is requested may not be there at all.
				checkNotOn(t, text+"\netc/a"+other+" > a"+kind, "a"+kind, api.ErrForm)
			}
		}
	}
}

// P13.2: ErrFull.

func TestOnFull(t *testing.T) {
	const a = "lib/a.target : WantedBy=t.target u.target | RequiredBy=t.target | Also=b.target"
	const links = "etc/t.target.requires/a.target > a.target\netc/t.target.wants/a.target > a.target\netc/t.target.wants/b.target > b.target\netc/u.target.wants/a.target > a.target"
	for _, b := range []string{"\nlib/b.target : WantedBy=t.target", "\nlib/b.target : WantedBy=t.target\nlib/c.target : Alias=cc.target"} {
		files := tree(a + b)
		room := 120 - len(files)
		checkAdded(t, enable.On, append(tree(a+b), numbered(room-4)...), "a.target", links)
		for _, n := range []int{room - 3, room} {
			checkRefused(t, enable.On, append(tree(a+b), numbered(n)...), "a.target", api.ErrFull)
		}
		checkRefused(t, enable.On, append(tree(a+b), numbered(room+1)...), "a.target", api.ErrForm)
		// What is there already takes no room.
		there := tree(a + b + "\n" + links)
		some := there[:len(there)-1]
		checkAdded(t, enable.On, slices.Concat(there, numbered(room-4)), "a.target", "")
		checkAdded(t, enable.On, slices.Concat(some, numbered(room-4)), "a.target", "etc/u.target.wants/a.target > a.target")
		checkRefused(t, enable.On, slices.Concat(some, numbered(room-3)), "a.target", api.ErrFull)
	}
}

// ErrTwice comes first, also if the unit with the alias is the last one.
func TestOnTwiceAndFull(t *testing.T) {
	checkRefused(t, enable.On, append(tree("lib/a.target : Alias=b.timer"), numbered(119)...), "a.target", api.ErrTwice)
	checkRefused(t, enable.On, append(tree("lib/a.target : Alias=c.target b.target\netc/b.target"), numbered(118)...), "a.target", api.ErrTwice)
	chain := "lib/t@.target : WantedBy=1.target 2.target 3.target 4.target | Also=t@%ix.target\nlib/t@xxxxxxxxxxxxxxxxxxxxxxxxxxxxxxxxxxxxxxxxx.target : Alias=b.target"
	checkNotOn(t, chain, "t@x.target", api.ErrFull)
	checkNotOn(t, chain+"\netc/b.target", "t@x.target", api.ErrTwice)
}

// P0.1: units that lead to more and more others.

func TestOnManyInstances(t *testing.T) {
	const also = " | Also=t@0%i.target t@1%i.target t@2%i.target t@3%i.target t@4%i.target t@5%i.target t@6%i.target t@7%i.target"
	checkNotOn(t, "lib/t@.target : DefaultInstance=x"+also, "t@i.target", api.ErrNone)
	checkNotOn(t, "lib/t@.target : WantedBy=x.target"+also, "t@i.target", api.ErrFull)
	checkNotOn(t, "lib/t@.target : RequiredBy=%i.target"+also, "t@i.target", api.ErrFull)
	checkNotOn(t, "lib/t@.target : Alias=x.target"+also, "t@i.target", api.ErrTwice)
	checkNotOn(t, "lib/t@.target : Alias=x%i.target"+also+"\netc/x0i.target", "t@i.target", api.ErrTwice)
}
