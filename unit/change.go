package unit

import (
	"iter"
	"slices"
	"strconv"
	"strings"

	"matins/api"
	"matins/span"
	"matins/words"
)

const maxRels = 64 // relations of a unit, of all kinds together

// change changes u as a line says. The functions below rely on it that the line
// has a known key and a value of that key's form.
func change(u *api.Unit, line api.Line) {
	switch line.Section {
	case "Unit":
		changeUnit(u, line.Key, line.Value)
	case "Service":
		changeService(u, line.Key, line.Value)
	case "Socket":
		changeSocket(u, line.Key, line.Value)
	case "Timer":
		changeTimer(u, line.Key, line.Value)
	case "Install":
		changeInstall(u, line.Key, line.Value)
	}
}

// isTooLong reports whether a list of u has more elements than it may have.
func isTooLong(u *api.Unit) bool {
	most := max(
		len(u.Pre), len(u.Start), len(u.Post), len(u.Stop), len(u.Reload),
		len(u.Success), len(u.Env), len(u.Sockets), len(u.Ports),
		len(u.Boot), len(u.Active), len(u.Idle), len(u.Calendar),
		len(u.WantedBy), len(u.RequiredBy), len(u.Alias), len(u.Also),
	)
	return most > api.MaxList || len(u.Rels) > maxRels
}

func changeUnit(u *api.Unit, key, value string) {
	switch key {
	case "Description":
		u.Desc = value
	case "DefaultDependencies":
		u.Default = isTrue(value)
	case "StartLimitIntervalSec":
		u.Every = duration(value)
	case "StartLimitBurst":
		u.Burst = number(value)
	default:
		changeRels(u, relation(key), value)
	}
}

func changeService(u *api.Unit, key, value string) {
	switch key {
	case "Type":
		u.Type = serviceType(value)
	case "ExecStartPre":
		u.Pre = withOne(u.Pre, value, command)
	case "ExecStart":
		u.Start = withOne(u.Start, value, command)
	case "ExecStartPost":
		u.Post = withOne(u.Post, value, command)
	case "ExecStop":
		u.Stop = withOne(u.Stop, value, command)
	case "ExecReload":
		u.Reload = withOne(u.Reload, value, command)
	case "RemainAfterExit":
		u.Remain = isTrue(value)
	case "Restart":
		u.Restart = restart(value)
	case "RestartSec":
		u.Pause = duration(value)
	case "TimeoutStartSec":
		u.Up = duration(value)
	case "TimeoutStopSec":
		u.Down = duration(value)
	case "SuccessExitStatus":
		u.Success = withNew(u.Success, value, number)
	case "Environment":
		u.Env = withPairs(u.Env, value)
	case "Sockets":
		u.Sockets = withNew(u.Sockets, value, text)
	}
}

func changeSocket(u *api.Unit, key, value string) {
	switch key {
	case "ListenStream":
		u.Ports = withNew(u.Ports, value, number)
	case "Backlog":
		u.Backlog = number(value)
	case "FileDescriptorName":
		u.FdName = value
	case "Service":
		u.Unit = value
	}
}

func changeTimer(u *api.Unit, key, value string) {
	switch key {
	case "OnBootSec":
		u.Boot = withOne(u.Boot, value, duration)
	case "OnActiveSec":
		u.Active = withOne(u.Active, value, duration)
	case "OnUnitInactiveSec":
		u.Idle = withOne(u.Idle, value, duration)
	case "OnCalendar":
		u.Calendar = withOne(u.Calendar, value, text)
	case "Persistent":
		u.Persistent = isTrue(value)
	case "Unit":
		u.Unit = value
	}
}

func changeInstall(u *api.Unit, key, value string) {
	switch key {
	case "WantedBy":
		u.WantedBy = withNew(u.WantedBy, value, text)
	case "RequiredBy":
		u.RequiredBy = withNew(u.RequiredBy, value, text)
	case "Alias":
		u.Alias = withNew(u.Alias, value, text)
	case "Also":
		u.Also = withNew(u.Also, value, text)
	case "DefaultInstance":
		u.Instance = value
	}
}

// relation returns the kind of the relations that a key lists.
func relation(key string) int {
	switch key {
	case "Requires":
		return api.RRequires
	case "Wants":
		return api.RWants
	case "Requisite":
		return api.RRequisite
	case "BindsTo":
		return api.RBinds
	case "PartOf":
		return api.RPart
	case "Conflicts":
		return api.RConflicts
	case "Before":
		return api.RBefore
	case "After":
		return api.RAfter
	case "OnFailure":
		return api.RFailure
	}
	return 0
}

// changeRels adds relations of a kind to all names of a value but the unit's
// own, or removes all of that kind for an empty value.
func changeRels(u *api.Unit, kind int, value string) {
	if value == "" {
		u.Rels = slices.DeleteFunc(u.Rels, func(r api.Rel) bool { return r.Kind == kind })
		return
	}
	for other := range elementsOf(value) {
		if other != u.Name {
			u.Rels = add(u.Rels, maxRels, api.Rel{Kind: kind, Name: other})
		}
	}
}

// withOne returns list with what a value denotes at its end, or no list for an
// empty value.
func withOne[T any](list []T, value string, read func(string) T) []T {
	if value == "" {
		return nil
	}
	return append(list, read(value))
}

// withNew returns list with those elements of a value at its end that it lacks,
// or no list for an empty value.
func withNew[T comparable](list []T, value string, read func(string) T) []T {
	if value == "" {
		return nil
	}
	for element := range elementsOf(value) {
		list = add(list, api.MaxList, read(element))
	}
	return list
}

// add returns list with an element at its end, unless it has that element.
func add[T comparable](list []T, most int, element T) []T {
	// A list that has too many elements is refused, whatever else comes. If it
	// went on growing, each further element would be searched for in all of it.
	if len(list) > most || slices.Contains(list, element) {
		return list
	}
	return append(list, element)
}

// withPairs returns env with the pairs of a value at its end, without earlier
// pairs of the same names, or no pairs for an empty value.
func withPairs(env []api.Pair, value string) []api.Pair {
	if value == "" {
		return nil
	}
	for _, word := range wordsOf(value) {
		variable, content, _ := strings.Cut(word, "=")
		env = slices.DeleteFunc(env, func(p api.Pair) bool { return p.Name == variable })
		env = append(env, api.Pair{Name: variable, Value: content})
	}
	return env
}

// elementsOf yields the elements of a value that lists numbers or names.
func elementsOf(value string) iter.Seq[string] {
	return strings.FieldsFuncSeq(value, func(r rune) bool { return r == ' ' })
}

func command(value string) api.Exec {
	rest, dash := strings.CutPrefix(value, "-")
	return api.Exec{Dash: dash, Words: wordsOf(rest)}
}

func wordsOf(value string) []string {
	l, _ := words.Split(value)
	return l
}

func isTrue(value string) bool {
	return value == "yes" || value == "true" || value == "1"
}

func number(value string) int {
	n, _ := strconv.Atoi(value)
	return n
}

func duration(value string) int {
	n, _ := span.Parse(value)
	return n
}

func text(value string) string {
	return value
}

func serviceType(value string) int {
	switch value {
	case "oneshot":
		return api.TOneshot
	case "notify":
		return api.TNotify
	}
	return api.TSimple
}

func restart(value string) int {
	switch value {
	case "on-success":
		return api.WSuccess
	case "on-failure":
		return api.WFailure
	case "on-abnormal":
		return api.WAbnormal
	case "always":
		return api.WAlways
	}
	return api.WNo
}
