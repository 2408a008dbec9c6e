package disk

import "codicil/api"

// The kinds of operations, as Fail names them.
const (
	kindRead = iota + 1
	kindWrite
	kindSync

	firstKind = kindRead
	lastKind  = kindSync
)

// countdown is how many operations still go well, if it is set; the next one behind them does not.
type countdown struct {
	set  bool
	left int
}

// strikes says whether it hits this operation; it does so once.
func (c *countdown) strikes() bool {
	if c.set && c.left == 0 {
		*c = countdown{}
		return true
	}
	if c.set {
		c.left--
	}
	return false
}

// operate does what is handed to it, unless the power or a fault is in its way. An operation that is refused for its arguments has passed here too: it is counted.
func (d *Disk) operate(kind int, do func() api.Errno) api.Errno {
	if d.dark {
		return api.ErrDark
	}
	if d.trip.strikes() {
		d.dark = true
		return api.ErrDark
	}
	d.counted[kind]++
	if d.faults[kind].strikes() {
		return api.ErrIO
	}
	return do()
}

func (d *Disk) has(page int) bool { return page >= 0 && page < d.Pages() }

func (d *Disk) Read(page int) ([]byte, api.Errno) {
	var out []byte
	err := d.operate(kindRead, func() api.Errno {
		if !d.has(page) {
			return api.ErrRange
		}
		out = make([]byte, 0, api.PageSize)
		for at := range sectorsOfPage {
			bytes := d.newest(page*sectorsOfPage + at)
			out = append(out, bytes[:]...)
		}
		return api.OK
	})
	return out, err
}

// Write writes a page, or its first sector alone.
func (d *Disk) Write(page int, b []byte) api.Errno {
	return d.operate(kindWrite, func() api.Errno {
		if !d.has(page) {
			return api.ErrRange
		}
		if len(b) != api.PageSize && len(b) != api.Sector {
			return api.ErrArg
		}
		for at := range len(b) / api.Sector {
			d.cache.add(page*sectorsOfPage+at, sectorAt(b, at))
		}
		return api.OK
	})
}

func (d *Disk) Sync() api.Errno {
	return d.operate(kindSync, func() api.Errno {
		d.settle(func(int) bool { return true })
		return api.OK
	})
}
