package unit

import (
	"slices"

	"matins/api"
)

// Same reports whether two units are equal. A list without elements may be nil
// or empty.
func Same(a, b api.Unit) bool {
	return sameCommon(a, b) && sameService(a, b) && sameCommands(a, b) &&
		sameSocket(a, b) && sameTimer(a, b) && sameInstall(a, b)
}

func sameCommon(a, b api.Unit) bool {
	return a.Name == b.Name && a.Kind == b.Kind && a.Desc == b.Desc &&
		a.Default == b.Default && slices.Equal(a.Rels, b.Rels) &&
		a.Every == b.Every && a.Burst == b.Burst
}

func sameService(a, b api.Unit) bool {
	return a.Type == b.Type && a.Remain == b.Remain &&
		a.Restart == b.Restart && a.Pause == b.Pause &&
		a.Up == b.Up && a.Down == b.Down &&
		slices.Equal(a.Success, b.Success) && slices.Equal(a.Env, b.Env) &&
		slices.Equal(a.Sockets, b.Sockets)
}

func sameCommands(a, b api.Unit) bool {
	return slices.EqualFunc(a.Pre, b.Pre, sameCommand) &&
		slices.EqualFunc(a.Start, b.Start, sameCommand) &&
		slices.EqualFunc(a.Post, b.Post, sameCommand) &&
		slices.EqualFunc(a.Stop, b.Stop, sameCommand) &&
		slices.EqualFunc(a.Reload, b.Reload, sameCommand)
}

func sameCommand(a, b api.Exec) bool {
	return a.Dash == b.Dash && slices.Equal(a.Words, b.Words)
}

// sameSocket compares what sockets have, and Unit, which timers have as well.
func sameSocket(a, b api.Unit) bool {
	return slices.Equal(a.Ports, b.Ports) && a.Backlog == b.Backlog &&
		a.FdName == b.FdName && a.Unit == b.Unit
}

func sameTimer(a, b api.Unit) bool {
	return slices.Equal(a.Boot, b.Boot) && slices.Equal(a.Active, b.Active) &&
		slices.Equal(a.Idle, b.Idle) && slices.Equal(a.Calendar, b.Calendar) &&
		a.Persistent == b.Persistent
}

func sameInstall(a, b api.Unit) bool {
	return slices.Equal(a.WantedBy, b.WantedBy) && slices.Equal(a.RequiredBy, b.RequiredBy) &&
		slices.Equal(a.Alias, b.Alias) && slices.Equal(a.Also, b.Also) &&
		a.Instance == b.Instance
}
