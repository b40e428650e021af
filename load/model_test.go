package load_test

import (
	"math/rand"
	"slices"
	"sort"
	"strconv"
	"strings"
	"testing"

	"matins/api"
	"matins/disk"
	"matins/enable"
	"matins/load"
	"matins/unit"
)

// What the chapter says, taken word by word, apart from the package but with the
// layers below it.

func expectedOne(files []api.File, name string) api.Loaded {
	found, err := disk.Find(files, name)
	if err == api.ErrNone {
		return api.Loaded{Name: name, State: api.LMissing}
	}
	if err != api.OK {
		return api.Loaded{Name: name, State: api.LBad, Fault: api.Fault{Code: err}}
	}
	if found.Masked {
		return api.Loaded{Name: found.Name, State: api.LMasked}
	}
	u, path, fault := enable.Read(files, name)
	if fault != (api.Fault{}) {
		return api.Loaded{Name: found.Name, State: api.LBad, Path: path, Fault: fault}
	}
	l := api.Loaded{Name: found.Name, State: api.LLoaded, Path: path, U: u}
	wants, requires := disk.Links(files, found.Name)
	for _, name := range wants {
		if name != found.Name {
			l.Wants = append(l.Wants, name)
		}
	}
	for _, name := range requires {
		if name != found.Name {
			l.Requires = append(l.Requires, name)
		}
	}
	return l
}

// model knows what One returned, so that the same isn't asked over and over.
type model struct {
	files []api.File
	ones  map[string]api.Loaded
}

func (m model) one(name string) api.Loaded {
	if _, has := m.ones[name]; !has {
		m.ones[name] = expectedOne(m.files, name)
	}
	return m.ones[name]
}

func (m model) own(name string) string { return m.one(name).Name }

// namedBy returns the names that a unit names, in order.
func (m model) namedBy(l api.Loaded) []string {
	var names []string
	if l.State != api.LLoaded {
		return nil
	}
	for _, rel := range l.U.Rels {
		names = append(names, rel.Name)
	}
	names = append(append(append(names, l.Wants...), l.Requires...), l.U.Sockets...)
	if w := unit.Wakes(l.U); w != "" {
		names = append(names, w)
	}
	return names
}

// collected returns the units that are loaded, in order.
func (m model) collected(units []string) []api.Loaded {
	var all []api.Loaded
	take := func(names []string) {
		for _, name := range names {
			own := m.own(name)
			if len(all) < 64 && !slices.ContainsFunc(all, func(l api.Loaded) bool { return l.Name == own }) {
				all = append(all, m.one(own))
			}
		}
	}
	take(units)
	for _, name := range []string{"sysinit.target", "shutdown.target"} {
		if m.one(name).State != api.LMissing {
			take([]string{name})
		}
	}
	for i := 0; i < len(all); i++ {
		take(m.namedBy(all[i]))
	}
	return all
}

// changed returns a loaded unit with what its names stand for.
func (m model) changed(l api.Loaded) api.Loaded {
	if l.State != api.LLoaded {
		return l
	}
	var rels []api.Rel
	for _, rel := range l.U.Rels {
		rel.Name = m.own(rel.Name)
		if rel.Name != l.Name && !slices.Contains(rels, rel) {
			rels = append(rels, rel)
		}
	}
	var sockets []string
	for _, name := range l.U.Sockets {
		if own := m.own(name); !slices.Contains(sockets, own) {
			sockets = append(sockets, own)
		}
	}
	if w := unit.Wakes(l.U); w != "" {
		l.U.Unit = m.own(w)
	}
	l.U.Rels, l.U.Sockets = rels, sockets
	l.Wants, l.Requires = m.ownSet(l.Wants, l.Name), m.ownSet(l.Requires, l.Name)
	return l
}

func (m model) ownSet(names []string, self string) []string {
	set := map[string]bool{}
	for _, name := range names {
		set[m.own(name)] = true
	}
	delete(set, self)
	var list []string
	for name := range set {
		list = append(list, name)
	}
	sort.Strings(list)
	return list
}

func (m model) all(units []string) []api.Loaded {
	var all []api.Loaded
	for _, l := range m.collected(units) {
		all = append(all, m.changed(l))
	}
	sort.Slice(all, func(i, j int) bool { return all[i].Name < all[j].Name })
	for i := range all {
		for j := range i {
			if all[i].State == api.LLoaded && all[j].State == api.LLoaded && haveCommon(all[i].U.Ports, all[j].U.Ports) {
				all[i] = api.Loaded{Name: all[i].Name, State: api.LBad, Path: all[i].Path, Fault: api.Fault{Code: api.ErrPort}}
			}
		}
	}
	return all
}

func haveCommon(a, b []int) bool {
	for _, x := range a {
		if slices.Contains(b, x) {
			return true
		}
	}
	return false
}

func pick[T any](random *rand.Rand, l ...T) T { return l[random.Intn(len(l))] }

// someName returns one of few names, of which many are related.
func someName(random *rand.Rand) string {
	if random.Intn(12) == 0 {
		return pick(random, "sysinit.target", "shutdown.target", "far"+strconv.Itoa(random.Intn(40))+".target")
	}
	return pick(random, "a", "b", "c", "d", "t@i", "t@j", "u@i") + pick(random, ".service", ".service", ".socket", ".timer", ".target")
}

func someNames(random *rand.Rand, most int) string {
	list := []string{someName(random)}
	for range random.Intn(most) {
		list = append(list, someName(random))
	}
	return strings.Join(list, " ")
}

// someText returns the text of a unit file, which is rarely wrong.
func someText(random *rand.Rand, kind string) string {
	var b strings.Builder
	switch kind {
	case "service":
		b.WriteString("[Service]\nExecStart=/x\n")
		if random.Intn(2) == 0 {
			b.WriteString("Sockets=" + someNames(random, 4) + pick(random, "", " a.socket b.socket c.socket", " t@i.socket u@i.socket") + "\n")
		}
	case "socket":
		b.WriteString("[Socket]\nListenStream=" + strconv.Itoa(1+random.Intn(12)) + "\n")
		if random.Intn(2) == 0 {
			b.WriteString("Service=" + pick(random, "a", "b", "t@i", "u@%p", "z") + ".service\nListenStream=" + strconv.Itoa(1+random.Intn(12)) + "\n")
		}
	case "timer":
		b.WriteString("[Timer]\nOnBootSec=1\n")
		if random.Intn(2) == 0 {
			b.WriteString("Unit=" + someName(random) + "\n")
		}
	}
	b.WriteString("[Unit]\n")
	for range random.Intn(5) {
		b.WriteString(pick(random, "Requires", "Wants", "Requisite", "BindsTo", "PartOf", "Conflicts", "Before", "After", "OnFailure") + "=" + someNames(random, 3) + "\n")
	}
	if random.Intn(12) == 0 {
		b.WriteString(pick(random, "Odd=1\n", "x\n", "Wants=\n", "After=%\n", "Wants=x\n", "Wants=%n\n", "[Install]\nAlso=o.service\n", "[Service]\nExecStart=\n"))
	}
	return b.String()
}

// someFile returns a file.
func someFile(random *rand.Rand) api.File {
	own := someName(random)
	if random.Intn(5) == 0 {
		own = pick(random, "t@", "u@") + own[strings.LastIndexByte(own, '.'):]
	}
	kind := own[strings.LastIndexByte(own, '.')+1:]
	f := api.File{Path: pick(random, "etc/", "run/", "lib/", "lib/", "lib/") + own}
	switch random.Intn(10) {
	case 0, 1:
		f.Link = pick(random, "null", "a."+kind, "b."+kind, "c."+kind, "t@i."+kind, "t@."+kind, "none."+kind)
	case 2:
		f.Path += ".d/" + pick(random, "a", "b") + ".conf"
		f.Text = "[Unit]\nAfter=" + someNames(random, 3) + "\n"
	case 3, 4:
		f.Path = pick(random, places...) + "/" + pick(random, own, "a.service", "b.target") + pick(random, ".wants/", ".requires/") + someName(random)
		f.Link = someName(random)
	default:
		f.Text = someText(random, kind)
	}
	if random.Intn(2000) == 0 {
		f.Path += pick(random, "x", "/", "\xff")
	}
	return f
}

func someFiles(random *rand.Rand) []api.File {
	var files []api.File
	for range random.Intn(pick(random, 4, 20, 60, 118)) {
		f := someFile(random)
		if disk.May(append(files, f)) || random.Intn(300) == 0 {
			files = append(files, f)
		}
	}
	return files
}

func TestRandomFiles(t *testing.T) {
	random := rand.New(rand.NewSource(14))
	came := map[string]int{}
	for range 1500 {
		files := someFiles(random)
		m := model{files, map[string]api.Loaded{}}
		units := strings.Fields(someNames(random, 8))
		if random.Intn(6) == 0 {
			units = slices.Concat(fillers(random.Intn(66)), units, noNames[:random.Intn(3)])
		}
		for _, name := range units {
			if one := load.One(files, name); !same(one, m.one(name)) {
				t.Fatalf("One(%q, %q) = %+v, want %+v", files, name, one, m.one(name))
			}
		}
		got, want := load.All(files, units), m.all(units)
		if !slices.EqualFunc(got, want, same) {
			t.Fatalf("All(%q, %q) = %+v, want %+v", files, units, got, want)
		}
		count(came, m, got)
	}
	for _, what := range []string{"State 1", "State 2", "State 3", "State 4", "Code 1", "Code 5", "Code 6", "Code 9", "Code 11", "Code 17", "Code 21", "full", "alias", "fewer Rels", "fewer Sockets", "fewer links", "Unit"} {
		if came[what] < 10 {
			t.Errorf("%s came only %d times", what, came[what])
		}
	}
}

// count counts what the tests have met.
func count(came map[string]int, m model, all []api.Loaded) {
	if len(all) == 64 {
		came["full"]++
	}
	for name, one := range m.ones {
		if one.Name != name {
			came["alias"]++
		}
	}
	for _, l := range all {
		one := m.one(l.Name)
		came["State "+strconv.Itoa(l.State)]++
		came["Code "+strconv.Itoa(int(l.Fault.Code))]++
		if l.State != api.LLoaded {
			continue
		}
		for what, fewer := range map[string]bool{
			"fewer Rels": len(l.U.Rels) < len(one.U.Rels), "fewer Sockets": len(l.U.Sockets) < len(one.U.Sockets), "fewer links": len(l.Wants)+len(l.Requires) < len(one.Wants)+len(one.Requires), "Unit": l.U.Unit != one.U.Unit,
		} {
			if fewer {
				came[what]++
			}
		}
	}
}

// N4: the order of the files does not matter.
func TestRandomOrders(t *testing.T) {
	random := rand.New(rand.NewSource(15))
	for range 150 {
		files := someFiles(random)
		units := strings.Fields(someNames(random, 8))
		want := load.All(files, units)
		for range 3 {
			random.Shuffle(len(files), func(i, j int) { files[i], files[j] = files[j], files[i] })
			if got := load.All(files, units); !slices.EqualFunc(got, want, same) {
				t.Fatalf("All(%q, %q) = %+v, want %+v", files, units, got, want)
			}
		}
	}
}
