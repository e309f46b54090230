// Package sectors lays bytes on the sectors of a device and reads them back, for the layers that keep more together than one sector holds.
package sectors

import (
	"stowage/api"
	"stowage/disk"
)

// Within tells whether d is a device and n sectors of it lie from one on.
func Within(d *disk.Dev, from, n int) bool {
	// From the size n is taken, since from and n together might wrap round.
	return d != nil && n >= 0 && from >= 0 && from <= d.Size()-n
}

// Count tells how few sectors hold that many bytes.
func Count(size int) int {
	n := size / api.SectorSize
	if size%api.SectorSize > 0 {
		n++
	}
	return n
}

// Read tells the first size bytes that lie on the sectors from one on.
func Read(d *disk.Dev, from, size int) ([]byte, api.Errno) {
	var b []byte
	for i := range Count(size) {
		sector, e := d.Read(from + i)
		if e != api.OK {
			return nil, e
		}
		b = append(b, sector...)
	}
	return b[:size], api.OK
}

// Write lays the bytes on the sectors from one on, by rising number, with noughts behind them up to the last one's end, and makes them last. It flushes even where there are no bytes, so that whatever was written ahead lasts in any case.
func Write(d *disk.Dev, from int, b []byte) api.Errno {
	for i := range Count(len(b)) {
		sector := make([]byte, api.SectorSize)
		copy(sector, b[i*api.SectorSize:])
		if e := d.Write(from+i, sector); e != api.OK {
			return e
		}
	}
	return d.Flush()
}
