package keys_test

import (
	"reflect"
	"regexp"
	"slices"
	"strings"
	"testing"

	"matins/api"
	"matins/keys"
)

// The table of the chapter.
const table = `
| Unit | Description VText; DefaultDependencies VBool; Requires, Wants, Requisite, BindsTo, PartOf, Conflicts, Before, After, OnFailure VNames List; StartLimitIntervalSec VSpan; StartLimitBurst VInt |
| Service | Type VWord (simple, oneshot, notify); ExecStartPre, ExecStart, ExecStartPost, ExecStop, ExecReload VExec List; RemainAfterExit VBool; Restart VWord (no, on-success, on-failure, on-abnormal, always); RestartSec, TimeoutStartSec, TimeoutStopSec VSpan; SuccessExitStatus VInts List; Environment VEnv List; Sockets VNames List |
| Socket | ListenStream VInts List; Backlog VInt; FileDescriptorName VText; Service VName |
| Timer | OnBootSec, OnActiveSec, OnUnitInactiveSec VSpan List; OnCalendar VCal List; Persistent VBool; Unit VName |
| Install | WantedBy, RequiredBy, Alias, Also VNames List; DefaultInstance VText |
`

var (
	row   = regexp.MustCompile(`\| (\w+) \| (.*) \|`)
	group = regexp.MustCompile(`([A-Za-z]+(?:, [A-Za-z]+)*) (V[A-Za-z]+)( List)?(?: \(([a-z, -]+)\))?(?:; |$)`)
)

// The forms by their names.
var forms = map[string]int{
	"VText": 1, "VBool": 2, "VInt": 3, "VSpan": 4, "VName": 5, "VNames": 6,
	"VExec": 7, "VEnv": 8, "VCal": 9, "VWord": 10, "VInts": 11,
}

// The sets of kinds by their sections: bits 1 (service) to 4 (target).
var kindSets = map[string]int{"Unit": 0b11110, "Service": 0b00010, "Socket": 0b00100, "Timer": 0b01000, "Install": 0b11110}

// expectedKeys returns the keys of the table.
func expectedKeys() []api.Key {
	var l []api.Key
	for _, r := range row.FindAllStringSubmatch(table, -1) {
		for _, g := range group.FindAllStringSubmatch(r[2], -1) {
			for _, name := range strings.Split(g[1], ", ") {
				k := api.Key{Section: r[1], Name: name, Form: forms[g[2]], List: g[3] != "", Kinds: kindSets[r[1]]}
				if g[4] != "" {
					k.Words = strings.Split(g[4], ", ")
				}
				l = append(l, k)
			}
		}
	}
	return l
}

// sameKey reports whether two keys are equal. Words may be nil or empty.
func sameKey(a, b api.Key) bool {
	sameWords := slices.Equal(a.Words, b.Words)
	a.Words, b.Words = nil, nil
	return sameWords && reflect.DeepEqual(a, b)
}

func checkAll(t *testing.T) {
	t.Helper()
	want := expectedKeys()
	if got := keys.All(); !slices.EqualFunc(got, want, sameKey) {
		t.Errorf("All() = %+v, want %+v", got, want)
	}
}

func checkFind(t *testing.T, want api.Key) {
	t.Helper()
	if got, ok := keys.Find(want.Section, want.Name); !ok || !sameKey(got, want) {
		t.Errorf("Find(%q, %q) = %+v, %v, want %+v", want.Section, want.Name, got, ok, want)
	}
}

func checkNotFound(t *testing.T, section, key string) {
	t.Helper()
	if got, ok := keys.Find(section, key); ok || !reflect.DeepEqual(got, api.Key{}) {
		t.Errorf("Find(%.100q, %.100q) = %+v, %v, want none", section, key, got, ok)
	}
}

// P8.1

func TestTheTableIsRead(t *testing.T) {
	l := expectedKeys()
	count := map[string]int{}
	for _, k := range l {
		count[k.Section]++
		if k.Form == 0 || k.Kinds == 0 || k.Form == api.VWord != (len(k.Words) > 0) {
			t.Errorf("a key without form, kind or words: %+v", k)
		}
	}
	if want := map[string]int{"Unit": 13, "Service": 14, "Socket": 4, "Timer": 6, "Install": 5}; !reflect.DeepEqual(count, want) {
		t.Errorf("keys of each section: %v, want %v", count, want)
	}
}

func TestAllKeys(t *testing.T) {
	checkAll(t)
}

func TestKindsAreBits(t *testing.T) {
	for _, k := range keys.All() {
		for kind := range 64 {
			want := kind == api.KService || kind == api.KSocket || kind == api.KTimer || kind == api.KTarget
			switch k.Section {
			case "Service":
				want = kind == api.KService
			case "Socket":
				want = kind == api.KSocket
			case "Timer":
				want = kind == api.KTimer
			}
			if got := k.Kinds>>kind&1 == 1; got != want {
				t.Errorf("%s of %s is for kind %d: %v", k.Name, k.Section, kind, got)
			}
		}
	}
}

func TestFindEachKey(t *testing.T) {
	for _, k := range expectedKeys() {
		checkFind(t, k)
	}
}

// Every name in every section: only those of the table are found.
func TestFindInEachSection(t *testing.T) {
	l := expectedKeys()
	for section := range kindSets {
		for _, k := range l {
			isKey := func(x api.Key) bool { return x.Section == section && x.Name == k.Name }
			if i := slices.IndexFunc(l, isKey); i >= 0 {
				checkFind(t, l[i])
			} else {
				checkNotFound(t, section, k.Name)
			}
		}
		checkNotFound(t, section, "")
		checkNotFound(t, section, section+section)
		checkNotFound(t, section, strings.Repeat("k", 1<<20))
	}
}

func TestFindComparesEachByte(t *testing.T) {
	for _, k := range expectedKeys() {
		s, n := k.Section, k.Name
		for _, section := range []string{"", s[1:], s[:len(s)-1], s + " ", " " + s, s + "\x00", strings.ToLower(s), strings.ToUpper(s), "[" + s + "]", s + "s", s + s, n} {
			if section == "Unit" && n == "Unit" || section == "Service" && n == "Service" {
				continue // these are tried in TestFindInEachSection
			}
			checkNotFound(t, section, n)
		}
		for _, name := range []string{n[1:], n[:len(n)-1], n + " ", " " + n, n + "\x00", strings.ToLower(n), strings.ToUpper(n), n + "=", n + n, s + "." + n} {
			checkNotFound(t, s, name)
		}
	}
	checkNotFound(t, "", "")
	checkNotFound(t, "Target", "Description")
	checkNotFound(t, "Path", "Unit")
}

func TestFindOfAlike(t *testing.T) {
	checkFind(t, api.Key{Section: "Socket", Name: "Service", Form: api.VName, Kinds: 1 << api.KSocket})
	checkFind(t, api.Key{Section: "Timer", Name: "Unit", Form: api.VName, Kinds: 1 << api.KTimer})
	checkFind(t, api.Key{Section: "Service", Name: "Sockets", Form: api.VNames, List: true, Kinds: 1 << api.KService})
	checkFind(t, api.Key{Section: "Unit", Name: "Requires", Form: api.VNames, List: true, Kinds: 30})
	checkNotFound(t, "Unit", "Unit")
	checkNotFound(t, "Service", "Service")
	checkNotFound(t, "Socket", "Sockets")
	checkNotFound(t, "Install", "Requires")
	checkNotFound(t, "Socket", "Unit")
	checkNotFound(t, "Timer", "Service")
}

// General rules

// spoil writes into all that a list of keys consists of, also behind its end.
func spoil(l []api.Key) {
	for _, k := range l {
		words := k.Words[:cap(k.Words)]
		for i := range words {
			words[i] = "spoilt"
		}
	}
	l = l[:cap(l)]
	for i := range l {
		l[i] = api.Key{Section: "Spoilt", Name: "Spoilt", Words: []string{"spoilt"}}
	}
}

// P0.3: what a caller writes into one list changes no other one.
func TestKeysAreNew(t *testing.T) {
	first, second := keys.All(), keys.All()
	found, _ := keys.Find("Service", "Restart")
	spoil(first)
	if want := expectedKeys(); !slices.EqualFunc(second, want, sameKey) {
		t.Errorf("a list that another call returned is now %+v", second)
	}
	if want := []string{"no", "on-success", "on-failure", "on-abnormal", "always"}; !slices.Equal(found.Words, want) {
		t.Errorf("words that another call returned are now %q", found.Words)
	}
	spoil([]api.Key{found})
	checkAll(t)
	for _, k := range expectedKeys() {
		checkFind(t, k)
	}
}

// P0.3: what a caller appends to one list of an answer changes no other one.
func TestWordsAreApart(t *testing.T) {
	l := keys.All()
	for _, k := range l {
		_ = append(k.Words, "appended", "appended")
	}
	if want := expectedKeys(); !slices.EqualFunc(l, want, sameKey) {
		t.Errorf("the keys are now %+v", l)
	}
	checkAll(t)
}
