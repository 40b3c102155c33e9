package disk

import (
	"maps"
	"slices"

	"parchment/api"
)

// file is bytes, and of what was sure just as much as they do not tell: all sectors behind the sure bytes are loose, so that no record of them is needed.
type file struct {
	bytes []byte
	sure  int            // how many bytes were there when it was synced or cut
	old   map[int]sector // those of its sectors with sure bytes into which bytes were put since
}

// sector is a loose sector's sure bytes.
type sector struct{ sure string }

// sectors is how many of them so many bytes need.
func sectors(long int) int {
	n := long / api.SectorBytes
	if long%api.SectorBytes > 0 {
		n++
	}
	return n
}

// add puts bytes behind all others.
func (f *file) add(s string) {
	f.loosen(len(f.bytes), len(s))
	f.bytes = append(f.bytes, s...)
}

// put puts bytes over others.
func (f *file) put(at int, s string) {
	f.loosen(at, len(s))
	copy(f.bytes[at:], s)
}

// loosen notes the sure bytes of the sectors into which n bytes are going to be put.
func (f *file) loosen(at, n int) {
	if n == 0 {
		return
	}
	end := min(at+n, f.sure)
	for k := at / api.SectorBytes; k*api.SectorBytes < end; k++ {
		if _, ok := f.old[k]; ok {
			continue
		}
		if f.old == nil {
			f.old = map[int]sector{}
		}
		from := k * api.SectorBytes
		f.old[k] = sector{sure: string(f.bytes[from:min(from+api.SectorBytes, f.sure)])}
	}
}

// settle makes all bytes sure.
func (f *file) settle() {
	f.sure = len(f.bytes)
	f.old = nil
}

// looseCount is how many sectors are loose.
func (f *file) looseCount() int {
	return len(f.old) + sectors(len(f.bytes)) - sectors(f.sure)
}

// loose is the loose sectors, from the front.
func (f *file) loose() []int {
	l := slices.Sorted(maps.Keys(f.old))
	for k := sectors(f.sure); k < sectors(len(f.bytes)); k++ {
		l = append(l, k)
	}
	return l
}

// lose is what a loss of power does to a file.
func (f *file) lose(l *loss) {
	long := f.sure
	for _, k := range f.loose() {
		from := k * api.SectorBytes
		b := f.bytes[from:min(from+api.SectorBytes, len(f.bytes))]
		kept := l.keeps(len(b))
		if kept > 0 {
			long = max(long, from+kept)
		}
		back(b, kept, f.old[k].sure)
	}
	f.bytes = f.bytes[:long]
	f.settle()
}

// back makes a sector's bytes, but those that are kept, what was sure: the sure ones, and noughts behind them.
func back(b []byte, kept int, sure string) {
	clear(b[kept:])
	if kept < len(sure) {
		copy(b[kept:], sure[kept:])
	}
}

// clone is a file of its own that is the same.
func (f *file) clone() *file {
	return &file{bytes: slices.Clone(f.bytes), sure: f.sure, old: maps.Clone(f.old)}
}

// loss is a loss of power, while loose sectors are gone over.
type loss struct {
	mask uint64
	torn int
	seen int // how many loose sectors there were up to now
}

// keeps is how many bytes of the next loose sector, which has so many, are as they are.
func (l *loss) keeps(long int) int {
	bit := min(l.seen, 63)
	l.seen++
	if l.mask>>bit&1 == 1 {
		return long
	}
	kept := min(max(l.torn, 0), long)
	// Just the first one that is not whole keeps some bytes.
	l.torn = 0
	return kept
}
