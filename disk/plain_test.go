package disk_test

import (
	"bytes"
	"fmt"
	"math/rand"
	"slices"
	"strings"
	"testing"

	"codicil/api"
	"codicil/disk"
)

// plain is a disk by the chapter's words: whole images, and a row of writes that is laid above them anew whenever it is asked.
type plain struct {
	lasting []byte
	row     []written
	dark    bool
	trip    int // -1: none
	faults  [4]int
	counted [4]int
}

type written struct {
	sector int
	bytes  []byte
}

func newPlain(image []byte) *plain {
	return &plain{lasting: bytes.Clone(image), trip: -1, faults: [4]int{-1, -1, -1, -1}}
}

// gate is what is asked of each operation ahead of what it does.
func (p *plain) gate(kind int) api.Errno {
	switch {
	case p.dark:
		return api.ErrDark
	case p.trip == 0:
		p.dark, p.trip = true, -1
		return api.ErrDark
	case p.trip > 0:
		p.trip--
	}
	p.counted[kind]++
	switch {
	case p.faults[kind] == 0:
		p.faults[kind] = -1
		return api.ErrIO
	case p.faults[kind] > 0:
		p.faults[kind]--
	}
	return api.OK
}

// laid is the image with those of the row's writes laid above it that are kept.
func (p *plain) laid(kept func(int) bool) []byte {
	out := bytes.Clone(p.lasting)
	for at, w := range p.row {
		if kept(at) {
			copy(out[w.sector*128:w.sector*128+128], w.bytes)
		}
	}
	return out
}

func (p *plain) read(number int) ([]byte, api.Errno) {
	if err := p.gate(kindRead); err != api.OK {
		return nil, err
	}
	if number < 0 || number >= len(p.lasting)/1024 {
		return nil, api.ErrRange
	}
	return p.laid(func(int) bool { return true })[number*1024 : number*1024+1024], api.OK
}

func (p *plain) write(number int, b []byte) api.Errno {
	if err := p.gate(kindWrite); err != api.OK {
		return err
	}
	switch {
	case number < 0 || number >= len(p.lasting)/1024:
		return api.ErrRange
	case len(b) == 128:
		p.row = append(p.row, written{number * 8, bytes.Clone(b)})
	case len(b) == 1024:
		for at := 0; at < 8; at++ {
			p.row = append(p.row, written{number*8 + at, bytes.Clone(b[at*128 : at*128+128])})
		}
	default:
		return api.ErrArg
	}
	return api.OK
}

func (p *plain) sync() api.Errno {
	if err := p.gate(kindSync); err != api.OK {
		return err
	}
	p.lasting, p.row = p.laid(func(int) bool { return true }), nil
	return api.OK
}

func (p *plain) setTrip(n int) api.Errno {
	if n < 0 {
		return api.ErrArg
	}
	if p.dark {
		return api.ErrDark
	}
	p.trip = n
	return api.OK
}

func (p *plain) setFault(kind, n int) api.Errno {
	if n < 0 || kind != kindRead && kind != kindWrite && kind != kindSync {
		return api.ErrArg
	}
	if p.dark {
		return api.ErrDark
	}
	p.faults[kind] = n
	return api.OK
}

func (p *plain) cut(keep []bool) {
	image := p.laid(func(at int) bool { return at < len(keep) && keep[at] })
	counted := p.counted
	*p = *newPlain(image)
	p.counted = counted
}

// step does one thing with both, and says whether they answer alike.
type step struct {
	name string
	do   func(d *disk.Disk, p *plain) bool
}

func readStep(number int) step {
	return step{fmt.Sprintf("Read(%d)", number), func(d *disk.Disk, p *plain) bool {
		got, err := d.Read(number)
		want, wantErr := p.read(number)
		return bytes.Equal(got, want) && err == wantErr
	}}
}

func writeStep(number int, b []byte) step {
	return step{fmt.Sprintf("Write(%d, %d bytes)", number, len(b)), func(d *disk.Disk, p *plain) bool {
		return d.Write(number, b) == p.write(number, b)
	}}
}

func syncStep() step {
	return step{"Sync()", func(d *disk.Disk, p *plain) bool { return d.Sync() == p.sync() }}
}

func tripStep(n int) step {
	return step{fmt.Sprintf("Trip(%d)", n), func(d *disk.Disk, p *plain) bool { return d.Trip(n) == p.setTrip(n) }}
}

func failStep(kind, n int) step {
	return step{fmt.Sprintf("Fail(%d, %d)", kind, n), func(d *disk.Disk, p *plain) bool { return d.Fail(kind, n) == p.setFault(kind, n) }}
}

func cutStep(keep ...bool) step {
	return step{fmt.Sprintf("Cut(%v)", keep), func(d *disk.Disk, p *plain) bool {
		d.Cut(keep...)
		p.cut(keep)
		return true
	}}
}

// alike says whether both tell the same of themselves.
func alike(d *disk.Disk, p *plain) bool {
	var waiting []int
	for _, w := range p.row {
		waiting = append(waiting, w.sector)
	}
	want := api.Counts{Reads: p.counted[1], Writes: p.counted[2], Syncs: p.counted[3]}
	return d.Pages() == len(p.lasting)/1024 && d.Dark() == p.dark && d.Counts() == want &&
		slices.Equal(d.Pending(), waiting) && bytes.Equal(d.Image(), p.lasting)
}

func names(steps []step) string {
	var out []string
	for _, s := range steps {
		out = append(out, s.name)
	}
	return strings.Join(out, ", ")
}

// play does steps with a new disk; what is told at the end is compared, and what a cut would keep of it.
func play(t *testing.T, image []byte, steps []step) {
	t.Helper()
	d, p := loaded(t, image), newPlain(image)
	for at, s := range steps {
		if !s.do(d, p) {
			t.Fatalf("another answer: %s", names(steps[:at+1]))
		}
	}
	if !alike(d, p) {
		t.Fatalf("another disk: %s", names(steps))
	}
	keep := make([]bool, len(p.row))
	for at := range keep {
		keep[at] = true
	}
	d.Cut(keep...)
	p.cut(keep)
	if !alike(d, p) {
		t.Fatalf("another disk behind a cut: %s", names(steps))
	}
}

// rows plays all rows of at most so many of these steps.
func rows(t *testing.T, image []byte, steps []step, most int) {
	t.Helper()
	var grow func(row []step)
	grow = func(row []step) {
		play(t, image, row)
		if len(row) == most {
			return
		}
		for _, s := range steps {
			grow(append(row, s))
		}
	}
	grow(make([]step, 0, most))
}

func TestAllShortRowsOfSteps(t *testing.T) {
	rows(t, pages('p', 'q'), []step{
		readStep(0), readStep(1), readStep(2),
		writeStep(0, page('a')), writeStep(0, sector('b')), writeStep(1, page('c')), writeStep(-1, page('d')), writeStep(1, full(3, 'e')),
		syncStep(),
		tripStep(0), tripStep(1), tripStep(-1),
		failStep(1, 0), failStep(2, 0), failStep(3, 0), failStep(2, 1), failStep(0, 0),
		cutStep(), cutStep(true), cutStep(false, true),
	}, 3)
}

func TestAllRowsOfAFewSteps(t *testing.T) {
	rows(t, page('p'), []step{writeStep(0, page('a')), writeStep(0, sector('b')), readStep(0), syncStep(), cutStep(true), cutStep(false, true)}, 5)
	rows(t, page('p'), []step{writeStep(0, sector('b')), readStep(0), syncStep(), tripStep(2), failStep(2, 1), cutStep(true)}, 5)
}

// anyStep draws a step, most often one that is right.
func anyStep(r *rand.Rand, size, row int) step {
	number := r.Intn(size+2) - 1
	switch r.Intn(12) {
	case 0, 1:
		return readStep(number)
	case 2, 3, 4, 5:
		lengths := []int{128, 128, 1024, 1024, 1024, 0, 127, 1025}
		b := make([]byte, lengths[r.Intn(len(lengths))])
		r.Read(b)
		return writeStep(number, b)
	case 6:
		return syncStep()
	case 7:
		return tripStep(r.Intn(12) - 1)
	case 8:
		return failStep(r.Intn(5), r.Intn(6)-1)
	case 9:
		keep := make([]bool, r.Intn(row+10))
		for at := range keep {
			keep[at] = r.Intn(2) == 0
		}
		return cutStep(keep...)
	default:
		return writeStep(r.Intn(size), sector(byte(r.Intn(256))))
	}
}

func TestLongRowsOfAnySteps(t *testing.T) {
	for seed := range 120 {
		r := rand.New(rand.NewSource(int64(seed)))
		size := r.Intn(5) + 1
		image := mixed(size * 1024)
		d, p := loaded(t, image), newPlain(image)
		var steps []step
		for range 200 {
			s := anyStep(r, size, len(p.row))
			steps = append(steps, s)
			if !s.do(d, p) || !alike(d, p) {
				t.Fatalf("seed %d: another answer or disk: %s", seed, names(steps))
			}
		}
	}
}

// TestBehindACut holds the promise itself: each sector has what lasted, or what the last of its writes that was kept gave.
func TestBehindACut(t *testing.T) {
	for seed := range 60 {
		r := rand.New(rand.NewSource(int64(seed)))
		image := mixed(3 * 1024)
		d := loaded(t, image)
		var last [24][]byte
		var given [][]byte
		for range 12 {
			b := make([]byte, []int{128, 1024}[r.Intn(2)])
			r.Read(b)
			d.Write(r.Intn(3), b)
			for at := 0; at < len(b); at += 128 {
				given = append(given, b[at:at+128])
			}
		}
		keep := make([]bool, len(given))
		for at, sector := range d.Pending() {
			if keep[at] = r.Intn(3) == 0; keep[at] {
				last[sector] = given[at]
			}
		}
		d.Cut(keep...)
		got := d.Image()
		for at := range last {
			want := image[at*128 : at*128+128]
			if last[at] != nil {
				want = last[at]
			}
			if !bytes.Equal(got[at*128:at*128+128], want) {
				t.Errorf("seed %d: sector %d has other bytes", seed, at)
			}
		}
	}
}
