package keys

import (
	"slices"

	"matins/api"
)

// anyKind is the set of all kinds of units.
const anyKind = 1<<api.KService | 1<<api.KSocket | 1<<api.KTimer | 1<<api.KTarget

// All returns the keys that there are, in their order.
func All() []api.Key {
	return slices.Concat(keysOf("Unit"), keysOf("Service"), keysOf("Socket"), keysOf("Timer"), keysOf("Install"))
}

// Find returns the key of a name in a section, and whether there is one.
func Find(section, key string) (api.Key, bool) {
	return named(keysOf(section), key)
}

// named returns the key of l that has a name, and whether there is one.
func named(l []api.Key, name string) (api.Key, bool) {
	for _, k := range l {
		if k.Name == name {
			return k, true
		}
	}
	return api.Key{}, false
}

// keysOf returns the keys of a section, in their order.
func keysOf(section string) []api.Key {
	switch section {
	case "Unit":
		return within(section, anyKind, unitKeys())
	case "Service":
		return within(section, 1<<api.KService, serviceKeys())
	case "Socket":
		return within(section, 1<<api.KSocket, socketKeys())
	case "Timer":
		return within(section, 1<<api.KTimer, timerKeys())
	case "Install":
		return within(section, anyKind, installKeys())
	}
	return nil
}

// within fills in the section and the kinds of the keys of l, and returns l.
func within(section string, kinds int, l []api.Key) []api.Key {
	for i := range l {
		l[i].Section = section
		l[i].Kinds = kinds
	}
	return l
}

func unitKeys() []api.Key {
	return []api.Key{
		{Name: "Description", Form: api.VText},
		{Name: "DefaultDependencies", Form: api.VBool},
		{Name: "Requires", Form: api.VNames, List: true},
		{Name: "Wants", Form: api.VNames, List: true},
		{Name: "Requisite", Form: api.VNames, List: true},
		{Name: "BindsTo", Form: api.VNames, List: true},
		{Name: "PartOf", Form: api.VNames, List: true},
		{Name: "Conflicts", Form: api.VNames, List: true},
		{Name: "Before", Form: api.VNames, List: true},
		{Name: "After", Form: api.VNames, List: true},
		{Name: "OnFailure", Form: api.VNames, List: true},
		{Name: "StartLimitIntervalSec", Form: api.VSpan},
		{Name: "StartLimitBurst", Form: api.VInt},
	}
}

func serviceKeys() []api.Key {
	return []api.Key{
		{Name: "Type", Form: api.VWord, Words: []string{"simple", "oneshot", "notify"}},
		{Name: "ExecStartPre", Form: api.VExec, List: true},
		{Name: "ExecStart", Form: api.VExec, List: true},
		{Name: "ExecStartPost", Form: api.VExec, List: true},
		{Name: "ExecStop", Form: api.VExec, List: true},
		{Name: "ExecReload", Form: api.VExec, List: true},
		{Name: "RemainAfterExit", Form: api.VBool},
		{Name: "Restart", Form: api.VWord, Words: []string{"no", "on-success", "on-failure", "on-abnormal", "always"}},
		{Name: "RestartSec", Form: api.VSpan},
		{Name: "TimeoutStartSec", Form: api.VSpan},
		{Name: "TimeoutStopSec", Form: api.VSpan},
		{Name: "SuccessExitStatus", Form: api.VInts, List: true},
		{Name: "Environment", Form: api.VEnv, List: true},
		{Name: "Sockets", Form: api.VNames, List: true},
	}
}

func socketKeys() []api.Key {
	return []api.Key{
		{Name: "ListenStream", Form: api.VInts, List: true},
		{Name: "Backlog", Form: api.VInt},
		{Name: "FileDescriptorName", Form: api.VText},
		{Name: "Service", Form: api.VName},
	}
}

func timerKeys() []api.Key {
	return []api.Key{
		{Name: "OnBootSec", Form: api.VSpan, List: true},
		{Name: "OnActiveSec", Form: api.VSpan, List: true},
		{Name: "OnUnitInactiveSec", Form: api.VSpan, List: true},
		{Name: "OnCalendar", Form: api.VCal, List: true},
		{Name: "Persistent", Form: api.VBool},
		{Name: "Unit", Form: api.VName},
	}
}

func installKeys() []api.Key {
	return []api.Key{
		{Name: "WantedBy", Form: api.VNames, List: true},
		{Name: "RequiredBy", Form: api.VNames, List: true},
		{Name: "Alias", Form: api.VNames, List: true},
		{Name: "Also", Form: api.VNames, List: true},
		{Name: "DefaultInstance", Form: api.VText},
	}
}
