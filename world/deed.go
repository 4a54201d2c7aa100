package world

import (
	"slices"

	"cobbler/api"
	"cobbler/chunk"
	"cobbler/device"
	"cobbler/patch"
	"cobbler/record"
)

// deed is what an event does to a valid world. It may write over the lists of the world, and returns none with an error.
type deed func(api.World) (api.World, api.Errno)

// deedOf returns what an event does; nil, if its Kind is unknown.
func deedOf(x api.Happening) deed {
	switch x.Kind {
	case api.HSend:
		return func(w api.World) (api.World, api.Errno) { return send(w, x.N) }
	case api.HHear:
		return inTurn(hearing(x.N), losing(x.N))
	case api.HTwice:
		return hearing(x.N)
	case api.HLose:
		return losing(x.N)
	case api.HOpen:
		return onDevice(device.Open)
	case api.HWrite:
		return writing(false, 0)
	case api.HTear:
		return writing(true, x.N)
	case api.HFinish:
		return finishing(false)
	case api.HTearRec:
		return finishing(true)
	case api.HConfirm:
		return onDevice(device.Confirm)
	case api.HCrash:
		return onDevice(device.Crash)
	case api.HBoot:
		return onDevice(device.Boot)
	}
	return nil
}

// send puts the chunks of the patch to release n on their way.
func send(w api.World, n int) (api.World, api.Errno) {
	r, _, e := record.Read(w.D.Copies)
	if e != api.OK {
		return api.World{}, e
	}
	from := r.In[r.Active].Version
	if n < 1 || n > len(w.R) || from > len(w.R) {
		return api.World{}, api.ErrWho
	}
	p, e := patch.Make(from, n, w.R[from-1], w.R[n-1])
	if e != api.OK {
		return api.World{}, e
	}
	l, e := chunk.Cut(p)
	if e != api.OK {
		return api.World{}, e
	}
	if len(w.Net)+len(l) > api.MaxNet {
		return api.World{}, api.ErrMany
	}
	w.Net = append(w.Net, l...)
	return w, api.OK
}

// hearing returns the deed that the device receives chunk n, which stays on its way.
func hearing(n int) deed {
	return func(w api.World) (api.World, api.Errno) {
		if !isOnItsWay(w, n) {
			return api.World{}, api.ErrWho
		}
		hear := func(d api.Device) (api.Device, api.Errno) { return device.Hear(d, w.Net[n]) }
		return onDevice(hear)(w)
	}
}

// losing returns the deed that chunk n is not on its way any more.
func losing(n int) deed {
	return func(w api.World) (api.World, api.Errno) {
		if !isOnItsWay(w, n) {
			return api.World{}, api.ErrWho
		}
		w.Net = slices.Delete(w.Net, n, n+1)
		return w, api.OK
	}
}

func isOnItsWay(w api.World, n int) bool { return 0 <= n && n < len(w.Net) }

// inTurn returns the deed that consists of two others, of which the second one follows only if the first one succeeds.
func inTurn(first, second deed) deed {
	return func(w api.World) (api.World, api.Errno) {
		w, e := first(w)
		if e != api.OK {
			return api.World{}, e
		}
		return second(w)
	}
}

func writing(torn bool, keep int) deed {
	return onDevice(func(d api.Device) (api.Device, api.Errno) { return device.Write(d, torn, keep) })
}

func finishing(torn bool) deed {
	return onDevice(func(d api.Device) (api.Device, api.Errno) { return device.Finish(d, torn) })
}

// onDevice returns the deed that concerns the device alone.
func onDevice(f func(api.Device) (api.Device, api.Errno)) deed {
	return func(w api.World) (api.World, api.Errno) {
		d, e := f(w.D)
		if e != api.OK {
			return api.World{}, e
		}
		w.D = d
		return w, api.OK
	}
}
