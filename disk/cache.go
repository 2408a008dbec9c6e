package disk

import "codicil/api"

type write struct {
	number int // of the sector
	bytes  sector
}

// cache is what was written and may still be lost. All writes are kept, also where one stands above another: a cut may keep any of them.
type cache struct {
	writes []write
	last   map[int]int // by a sector's number: where its last write stands, so that a read need not look through all
}

func (c *cache) add(number int, bytes sector) {
	if c.last == nil {
		c.last = map[int]int{}
	}
	c.last[number] = len(c.writes)
	c.writes = append(c.writes, write{number: number, bytes: bytes})
}

// settle lets those of the cache's writes last that are kept, and empties it.
func (d *Disk) settle(kept func(at int) bool) {
	for at, w := range d.cache.writes {
		if kept(at) {
			d.lasting[w.number] = w.bytes
		}
	}
	d.cache = cache{}
}

// newest are the bytes that were written last, whether they last or not.
func (d *Disk) newest(number int) sector {
	if at, ok := d.cache.last[number]; ok {
		return d.cache.writes[at].bytes
	}
	return d.lasting[number]
}

// sectorAt is a copy of the number-th sector of bytes that have it.
func sectorAt(b []byte, number int) sector {
	return sector(b[number*api.Sector:])
}
