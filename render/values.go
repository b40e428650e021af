package render

import (
	"strconv"

	"matins/api"
	"matins/span"
	"matins/words"
)

// values returns the values of the lines of a key, in their order, where plain
// is the unit without any line. Something that no value denotes, such as a
// negative duration, yields a value all the same: one that is refused, or that
// denotes something else, which shows when the encoding is decoded.
func values(k api.Key, u, plain api.Unit) []string {
	switch k.Section {
	case "Unit":
		return valuesOfUnit(k, u, plain)
	case "Service":
		return valuesOfService(k, u, plain)
	case "Socket":
		return valuesOfSocket(k, u, plain)
	case "Timer":
		return valuesOfTimer(k, u, plain)
	case "Install":
		return valuesOfInstall(k, u, plain)
	}
	return nil
}

// valuesOfUnit leaves out the relations, which linesOfKey encodes together.
func valuesOfUnit(k api.Key, u, plain api.Unit) []string {
	switch k.Name {
	case "Description":
		return changed(u.Desc, plain.Desc, text)
	case "DefaultDependencies":
		return changed(u.Default, plain.Default, yesOrNo)
	case "StartLimitIntervalSec":
		return changed(u.Every, plain.Every, span.Print)
	case "StartLimitBurst":
		return changed(u.Burst, plain.Burst, strconv.Itoa)
	}
	return nil
}

func valuesOfService(k api.Key, u, plain api.Unit) []string {
	switch k.Name {
	case "Type":
		return changed(u.Type, plain.Type, wordOf(k))
	case "ExecStartPre":
		return each(u.Pre, command)
	case "ExecStart":
		return each(u.Start, command)
	case "ExecStartPost":
		return each(u.Post, command)
	case "ExecStop":
		return each(u.Stop, command)
	case "ExecReload":
		return each(u.Reload, command)
	case "RemainAfterExit":
		return changed(u.Remain, plain.Remain, yesOrNo)
	case "Restart":
		return changed(u.Restart, plain.Restart, wordOf(k))
	case "RestartSec":
		return changed(u.Pause, plain.Pause, span.Print)
	case "TimeoutStartSec":
		return changed(u.Up, plain.Up, span.Print)
	case "TimeoutStopSec":
		return changed(u.Down, plain.Down, span.Print)
	case "SuccessExitStatus":
		return each(u.Success, strconv.Itoa)
	case "Environment":
		return each(u.Env, assignment)
	case "Sockets":
		return each(u.Sockets, text)
	}
	return nil
}

func valuesOfSocket(k api.Key, u, plain api.Unit) []string {
	switch k.Name {
	case "ListenStream":
		return each(u.Ports, strconv.Itoa)
	case "Backlog":
		return changed(u.Backlog, plain.Backlog, strconv.Itoa)
	case "FileDescriptorName":
		return changed(u.FdName, plain.FdName, text)
	case "Service":
		return changed(u.Unit, plain.Unit, text)
	}
	return nil
}

func valuesOfTimer(k api.Key, u, plain api.Unit) []string {
	switch k.Name {
	case "OnBootSec":
		return each(u.Boot, span.Print)
	case "OnActiveSec":
		return each(u.Active, span.Print)
	case "OnUnitInactiveSec":
		return each(u.Idle, span.Print)
	case "OnCalendar":
		return each(u.Calendar, text)
	case "Persistent":
		return changed(u.Persistent, plain.Persistent, yesOrNo)
	case "Unit":
		return changed(u.Unit, plain.Unit, text)
	}
	return nil
}

func valuesOfInstall(k api.Key, u, plain api.Unit) []string {
	switch k.Name {
	case "WantedBy":
		return each(u.WantedBy, text)
	case "RequiredBy":
		return each(u.RequiredBy, text)
	case "Alias":
		return each(u.Alias, text)
	case "Also":
		return each(u.Also, text)
	case "DefaultInstance":
		return changed(u.Instance, plain.Instance, text)
	}
	return nil
}

// keyOfRelation returns the key that lists relations of a kind, or "" if there
// is none.
func keyOfRelation(kind int) string {
	switch kind {
	case api.RRequires:
		return "Requires"
	case api.RWants:
		return "Wants"
	case api.RRequisite:
		return "Requisite"
	case api.RBinds:
		return "BindsTo"
	case api.RPart:
		return "PartOf"
	case api.RConflicts:
		return "Conflicts"
	case api.RBefore:
		return "Before"
	case api.RAfter:
		return "After"
	case api.RFailure:
		return "OnFailure"
	}
	return ""
}

// each returns the value of each element of a list.
func each[T any](list []T, write func(T) string) []string {
	var result []string
	for _, element := range list {
		result = append(result, write(element))
	}
	return result
}

// changed returns the value of a field, or none if the field is as it is without
// any line.
func changed[T comparable](field, plain T, write func(T) string) []string {
	if field == plain {
		return nil
	}
	return []string{write(field)}
}

// wordOf returns the function that yields the word of a key for a number, or ""
// if there is none.
func wordOf(k api.Key) func(int) string {
	return func(n int) string {
		// The numbers of types and of restarts count the words from 1.
		if n < 1 || n > len(k.Words) {
			return ""
		}
		return k.Words[n-1]
	}
}

func command(e api.Exec) string {
	value := words.Join(e.Words)
	if e.Dash {
		value = "-" + value
	}
	return value
}

func assignment(p api.Pair) string {
	return words.Join([]string{p.Name + "=" + p.Value})
}

func yesOrNo(is bool) string {
	if is {
		return "yes"
	}
	return "no"
}

func text(s string) string {
	return s
}
