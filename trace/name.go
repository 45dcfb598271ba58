package trace

import (
	"whenstead/api"
)

// name of an event: its process, and how many events of that process are told ahead of it.
// It stays the same in whatever order the events of several processes are told.
type name [2]int

// namesOf all events of a trace.
func namesOf(t api.Trace) []name {
	names := make([]name, len(t.Events))
	var told [api.MaxProcs]int
	for i, e := range t.Events {
		names[i] = name{e.Proc, told[e.Proc]}
		told[e.Proc]++
	}
	return names
}

// sameEvents tells whether all events of one trace are in another one that has as many, and heard of the same there.
func sameEvents(t, u api.Trace) bool {
	inT, inU := namesOf(t), namesOf(u)
	places := make(map[name]int, len(inU))
	for i, n := range inU {
		places[n] = i
	}
	for i, e := range t.Events {
		place, ok := places[inT[i]]
		if !ok || heardOf(e, inT) != heardOf(u.Events[place], inU) {
			return false
		}
	}
	return true
}

// heardOf gives the name of the event of which one heard; if it was none, what is the name of no event.
func heardOf(e api.Event, names []name) name {
	if !Heard(e) {
		return name{-1, -1}
	}
	return names[e.From]
}
