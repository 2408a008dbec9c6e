package pool_test

import (
	"bytes"
	"fmt"
	"math/rand"
	"slices"
	"strings"
	"testing"

	"codicil/api"
	"codicil/disk"
	"codicil/page"
	"codicil/pool"
)

// plain is a pool by the chapter's words: a row of pages, the one that was used longest ago first, that is gone through whenever something is asked.
type plain struct {
	disk *disk.Disk
	most int
	row  []kept
}

type kept struct {
	number  uint32
	kind    uint8
	payload []byte
}

func (p *plain) at(number uint32) int {
	return slices.IndexFunc(p.row, func(k kept) bool { return k.number == number })
}

func (p *plain) forget(number uint32) {
	p.row = slices.DeleteFunc(p.row, func(k kept) bool { return k.number == number })
}

// used puts a page at the end of the row, whether it was there or not.
func (p *plain) used(k kept) {
	p.forget(k.number)
	p.row = append(p.row, k)
	if len(p.row) > p.most {
		p.row = p.row[1:]
	}
}

func (p *plain) read(number uint32) (uint8, []byte, api.Errno) {
	if int64(number) >= int64(p.disk.Pages()) {
		return 0, nil, api.ErrRange
	}
	if at := p.at(number); at >= 0 {
		k := p.row[at]
		p.used(k)
		return k.kind, k.payload, api.OK
	}
	b, err := p.disk.Read(int(number))
	if err != api.OK {
		return 0, nil, err
	}
	kind, payload, err := page.Open(number, b)
	if err != api.OK {
		return 0, nil, api.ErrPoolForm
	}
	p.used(kept{number, kind, payload})
	return kind, payload, api.OK
}

func (p *plain) write(number uint32, kind uint8, payload []byte) api.Errno {
	b, err := page.Seal(kind, number, payload)
	if err != api.OK {
		return err
	}
	if int64(number) >= int64(p.disk.Pages()) {
		return api.ErrRange
	}
	if err := p.disk.Write(int(number), b); err != api.OK {
		p.forget(number)
		return err
	}
	p.used(kept{number, kind, payload})
	return api.OK
}

// pair is a pool with its disk, and a plain one with a disk of its own to which the same happens.
type pair struct {
	disk  *disk.Disk
	pool  *pool.Pool
	plain *plain
}

func newPair(t *testing.T, image []byte, most int) *pair {
	t.Helper()
	var disks [2]*disk.Disk
	for at := range disks {
		d, err := disk.Load(image)
		if err != api.OK {
			t.Fatal(err)
		}
		disks[at] = d
	}
	return &pair{disks[0], made(t, disks[0], most), &plain{disk: disks[1], most: most}}
}

// alike says whether both have the same pages at hand, and have done the same to their disks.
func (p *pair) alike() bool {
	one, two := p.disk, p.plain.disk
	if p.pool.Len() != len(p.plain.row) || p.pool.Pages() != two.Pages() || one.Counts() != two.Counts() || one.Dark() != two.Dark() {
		return false
	}
	for number := range uint32(two.Pages() + 2) {
		if p.pool.Has(number) != (p.plain.at(number) >= 0) {
			return false
		}
	}
	return slices.Equal(one.Pending(), two.Pending())
}

func (p *pair) alikeForGood() bool { return bytes.Equal(p.disk.Image(), p.plain.disk.Image()) }

// step does one thing with both, and says whether they answer alike.
type step struct {
	name string
	do   func(p *pair) bool
}

func readStep(number uint32) step {
	return step{fmt.Sprintf("Read(%d)", number), func(p *pair) bool {
		kind, payload, err := p.pool.Read(number)
		wantKind, want, wantErr := p.plain.read(number)
		return kind == wantKind && bytes.Equal(payload, want) && err == wantErr
	}}
}

func writeStep(number uint32, kind uint8, payload []byte) step {
	return step{fmt.Sprintf("Write(%d, %d, %d bytes)", number, kind, len(payload)), func(p *pair) bool {
		return p.pool.Write(number, kind, payload) == p.plain.write(number, kind, payload)
	}}
}

func forgetStep(number uint32) step {
	return step{fmt.Sprintf("Forget(%d)", number), func(p *pair) bool {
		p.pool.Forget(number)
		p.plain.forget(number)
		return true
	}}
}

func syncStep() step {
	return step{"Sync()", func(p *pair) bool { return p.pool.Sync() == p.plain.disk.Sync() }}
}

// diskStep does something with the disk itself.
func diskStep(name string, do func(d *disk.Disk) api.Errno) step {
	return step{name, func(p *pair) bool { return do(p.disk) == do(p.plain.disk) }}
}

func failStep(kind, n int) step {
	return diskStep(fmt.Sprintf("Fail(%d, %d)", kind, n), func(d *disk.Disk) api.Errno { return d.Fail(kind, n) })
}

func tripStep(n int) step {
	return diskStep(fmt.Sprintf("Trip(%d)", n), func(d *disk.Disk) api.Errno { return d.Trip(n) })
}

func cutStep(keep ...bool) step {
	return diskStep(fmt.Sprintf("Cut(%v)", keep), func(d *disk.Disk) api.Errno {
		d.Cut(keep...)
		return api.OK
	})
}

// tearStep puts noughts into a page's first sector, behind the pool's back.
func tearStep(number int) step {
	return diskStep(fmt.Sprintf("tear %d", number), func(d *disk.Disk) api.Errno { return d.Write(number, make([]byte, api.Sector)) })
}

func names(steps []step) string {
	var out []string
	for _, s := range steps {
		out = append(out, s.name)
	}
	return strings.Join(out, ", ")
}

// rows plays all rows of at most so many of these steps, each from the beginning.
func rows(t *testing.T, image []byte, size int, steps []step, longest int) {
	t.Helper()
	var grow func(row []step)
	grow = func(row []step) {
		p := newPair(t, image, size)
		for _, s := range row {
			if !s.do(p) {
				t.Fatalf("of a pool of %d another answer: %s", size, names(row))
			}
		}
		if !p.alike() || !p.alikeForGood() {
			t.Fatalf("another pool of %d, or another disk: %s", size, names(row))
		}
		if len(row) == longest {
			return
		}
		for _, s := range steps {
			grow(append(row, s))
		}
	}
	grow(make([]step, 0, longest))
}

func TestAllRowsOfUses(t *testing.T) {
	image := lettered(t, 4).Image()
	fresh := []byte("new")
	for size := range 4 {
		rows(t, image, size+1, []step{
			readStep(0), readStep(1), readStep(2), readStep(3),
			writeStep(0, page.Leaf, fresh), writeStep(1, page.Over, fresh),
			forgetStep(0), forgetStep(2),
		}, 4)
	}
	rows(t, image, 2, []step{readStep(0), readStep(1), readStep(2), writeStep(3, page.Free, fresh), forgetStep(1)}, 6)
}

func TestAllShortRowsOfSteps(t *testing.T) {
	image := append(lettered(t, 2).Image(), make([]byte, 1024)...)
	fresh := []byte("new")
	for size := range 3 {
		rows(t, image, size+1, []step{
			readStep(0), readStep(1), readStep(2), readStep(3), readStep(greatest),
			writeStep(0, page.Free, fresh), writeStep(2, page.Leaf, nil), writeStep(1, 0, fresh), writeStep(1, page.Leaf, make([]byte, 1009)), writeStep(3, page.Leaf, fresh), writeStep(3, 5, fresh),
			forgetStep(0), forgetStep(9),
			syncStep(),
			failStep(kindRead, 0), failStep(kindWrite, 0), failStep(kindSync, 0), tripStep(0), tripStep(1),
			cutStep(), cutStep(true), tearStep(0),
		}, 3)
	}
}

// anyStep draws a step, most often one that is right.
func anyStep(r *rand.Rand, pages int) step {
	number := uint32(r.Intn(pages))
	switch r.Intn(20) {
	case 0:
		numbers := beyond(pages)
		return readStep(numbers[r.Intn(len(numbers))])
	case 1:
		return writeStep(uint32(r.Intn(pages+2)), uint8(r.Intn(7)), make([]byte, 1006+r.Intn(5)))
	case 2, 3:
		return forgetStep(number)
	case 4:
		return syncStep()
	case 5:
		return failStep(r.Intn(3)+1, r.Intn(4))
	case 6:
		return tripStep(r.Intn(20))
	case 7:
		keep := make([]bool, r.Intn(20))
		for at := range keep {
			keep[at] = r.Intn(4) > 0
		}
		return cutStep(keep...)
	case 8:
		return tearStep(int(number))
	case 9, 10, 11, 12, 13:
		return writeStep(number, uint8(r.Intn(4))+1, mixed(r.Intn(1009), r.Uint32()))
	default:
		return readStep(number)
	}
}

func TestLongRowsOfAnySteps(t *testing.T) {
	for seed := range 150 {
		r := rand.New(rand.NewSource(int64(seed)))
		pages := r.Intn(7) + 1
		p := newPair(t, lettered(t, pages).Image(), r.Intn(pages+2)+1)
		var steps []step
		for range 250 {
			s := anyStep(r, pages)
			steps = append(steps, s)
			if !s.do(p) || !p.alike() {
				t.Fatalf("seed %d: another answer or pool: %s", seed, names(steps))
			}
		}
		if !p.alikeForGood() {
			t.Fatalf("seed %d: another disk: %s", seed, names(steps))
		}
	}
}

// TestPoolsOfUnlikeSizesTellTheSame, as long as the disk does not fail, and what was written last; they do the same writes and syncs.
func TestPoolsOfUnlikeSizesTellTheSame(t *testing.T) {
	const pages = 6
	for seed := range 40 {
		r := rand.New(rand.NewSource(int64(seed)))
		var disks []*disk.Disk
		var pools []*pool.Pool
		for _, most := range []int{1, 2, 3, pages, pages + 1, 1000} {
			d := blank(t, pages)
			disks, pools = append(disks, d), append(pools, made(t, d, most))
		}
		last := map[uint32]kept{}
		for range 200 {
			number := uint32(r.Intn(pages + 1))
			kind, payload := uint8(r.Intn(6)), mixed(r.Intn(1012), r.Uint32())
			act := r.Intn(8)
			want := plainWrite(number, pages, kind, payload)
			if act < 2 && want == api.OK {
				last[number] = kept{number, kind, payload}
			}
			for at, p := range pools {
				switch act {
				case 0, 1:
					answers(t, "a write", p.Write(number, kind, payload), want)
				case 2:
					p.Forget(number)
				case 3:
					answers(t, "a sync", p.Sync(), api.OK)
				default:
					tellsLast(t, p, number, last)
				}
				one, other := disks[0].Counts(), disks[at].Counts()
				if one.Writes != other.Writes || one.Syncs != other.Syncs {
					t.Fatalf("seed %d: unlike operations: %+v, %+v", seed, one, other)
				}
			}
		}
		for at := range disks {
			if !slices.Equal(disks[at].Pending(), disks[0].Pending()) || !bytes.Equal(disks[at].Image(), disks[0].Image()) {
				t.Fatalf("seed %d: unlike disks", seed)
			}
		}
	}
}

// plainWrite is what a write tells where the disk does not fail.
func plainWrite(number, pages uint32, kind uint8, payload []byte) api.Errno {
	switch {
	case kind < 1 || kind > 4 || len(payload) > 1008:
		return api.ErrPageForm
	case number >= pages:
		return api.ErrRange
	}
	return api.OK
}

// tellsLast looks whether a read tells what was written last, of a disk that had noughts.
func tellsLast(t *testing.T, p *pool.Pool, number uint32, last map[uint32]kept) {
	t.Helper()
	k, was := last[number]
	switch {
	case int(number) >= p.Pages():
		refusesRead(t, p, number, api.ErrRange)
	case !was:
		refusesRead(t, p, number, api.ErrPoolForm)
	default:
		reads(t, p, number, k.kind, k.payload)
	}
}
