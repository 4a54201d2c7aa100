package world

import (
	"bytes"
	"slices"

	"cobbler/api"
)

// copied returns a world with memory of its own.
func copied(w api.World) api.World {
	return api.World{R: copiedReleases(w.R), D: copiedDevice(w.D), Net: copiedChunks(w.Net)}
}

func copiedReleases(l [][]byte) [][]byte { return each(l, bytes.Clone) }

func copiedDevice(d api.Device) api.Device {
	d.Slots = [2][]byte{bytes.Clone(d.Slots[0]), bytes.Clone(d.Slots[1])}
	d.Got = copiedChunks(d.Got)
	d.Job.Ops = each(d.Job.Ops, func(o api.Op) api.Op {
		o.Data = bytes.Clone(o.Data)
		return o
	})
	return d
}

func copiedChunks(l []api.Chunk) []api.Chunk {
	return each(l, func(c api.Chunk) api.Chunk {
		c.Data = bytes.Clone(c.Data)
		return c
	})
}

// each returns a new list of what f returns for each element.
func each[T any](l []T, f func(T) T) []T {
	l = slices.Clone(l)
	for i, x := range l {
		l[i] = f(x)
	}
	return l
}
