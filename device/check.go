package device

import (
	"bytes"

	"cobbler/api"
	"cobbler/chunk"
	"cobbler/patch"
	"cobbler/record"
)

// Check says what is wrong with a device.
func Check(d api.Device) api.Errno {
	for _, s := range d.Slots {
		if len(s) != slotSize {
			return api.ErrForm
		}
	}
	r, _, e := record.Read(d.Copies)
	switch {
	case e != api.OK:
		return e
	case d.Up:
		return checkUp(d, r)
	case !Same(d, off(d)):
		return api.ErrForm
	}
	return api.OK
}

// checkUp says what is wrong with a device that is up, whose slots and record r are right.
func checkUp(d api.Device, r api.Record) api.Errno {
	tried := r.Trying && d.Running == other(r.Active)
	if d.Running != r.Active && !tried {
		return api.ErrRange
	}
	if e := chunk.List(d.Got); e != api.OK {
		return e
	}
	switch {
	case d.Busy:
		return checkBusy(d, r)
	case d.Done != 0 || !patch.Same(d.Job, api.Patch{}):
		return api.ErrForm
	}
	return api.OK
}

// checkBusy says what is wrong with the installation that a device is busy with.
func checkBusy(d api.Device, r api.Record) api.Errno {
	slot := other(r.Active)
	if r.Trying || !suits(d.Job, r) || r.In[slot] != (api.Info{}) {
		return api.ErrForm
	}
	b, e := patch.Do(d.Job, image(d, r))
	if e != api.OK {
		return e
	}
	// Job was found to be valid, so that its Size is small and the sum cannot exceed an int.
	if d.Done < 0 || d.Done > slotSize || d.Done%api.SectorSize != 0 || d.Done >= d.Job.Size+api.SectorSize {
		return api.ErrRange
	}
	if !bytes.Equal(d.Slots[slot][:d.Done], filled(b)[:d.Done]) {
		return api.ErrForm
	}
	return api.OK
}

// suits says whether a patch may be installed where the record is r, as far as versions go.
func suits(p api.Patch, r api.Record) bool {
	return p.From == r.In[r.Active].Version && p.To >= r.Floor
}

// Same says whether two devices agree, be they valid or not.
func Same(a, b api.Device) bool {
	for k := range a.Slots {
		if !bytes.Equal(a.Slots[k], b.Slots[k]) {
			return false
		}
	}
	return a.Copies == b.Copies && a.Up == b.Up && a.Running == b.Running && a.Busy == b.Busy && a.Done == b.Done &&
		chunk.Same(a.Got, b.Got) && patch.Same(a.Job, b.Job)
}
