package wal

import (
	"maps"

	"brickyard/api"
)

// readHeads finds where the log begins by the newer head that is whole, and answers that head's stamp.
func (l *Log) readHeads() (begin uint64, e api.Errno) {
	for i := range heads {
		b, e := l.read(i)
		if e != api.OK {
			return 0, e
		}
		stamp, body, whole := unseal(b)
		if whole && stamp > begin {
			begin = stamp
			l.next = round(numberAt(body, 0))
			l.head = heads - 1 - i
		}
	}
	if begin == 0 {
		return 0, api.ErrBlank
	}
	return begin, api.OK
}

// wipeDirty takes out of the log what is dirty in it: a Commit that answered OK flushed it, so that this comes of one
// that a device error ended.
func (l *Log) wipeDirty() api.Errno {
	for _, i := range l.device.Dirty() {
		if i < firstLog || i >= firstPage {
			continue
		}
		if e := l.wipe(i, 1); e != api.OK {
			return e
		}
	}
	return api.OK
}

// readLog lets the images wait of all transactions behind the head with the stamp begin. It reads the whole log, since
// a stamp that stands anywhere in it must not be given again.
func (l *Log) readLog(begin uint64) api.Errno {
	var blocks [api.LogBlocks][]byte
	for i := range blocks {
		b, e := l.read(firstLog + i)
		if e != api.OK {
			return e
		}
		blocks[i] = b
	}
	// Stamps rise from transaction to transaction, so that the loop ends even where the log is full.
transactions:
	for {
		stamp, names, whole := unseal(blocks[l.next])
		need := 1 + numberAt(names, 0)
		if !whole || stamp <= begin || need > api.LogBlocks {
			break
		}
		images := map[int]page{}
		for k := 1; k < need; k++ {
			of, image, whole := unseal(blocks[round(l.next+k)])
			if !whole || of != stamp {
				break transactions
			}
			images[numberAt(names, k)] = image
		}
		maps.Copy(l.waiting, images)
		begin = stamp
		l.next = round(l.next + need)
	}
	return api.OK
}

// read answers a block of the device, and takes note of the stamps that stand in it.
func (l *Log) read(i int) ([]byte, api.Errno) {
	b, e := l.device.Read(i)
	if e != api.OK {
		return nil, e
	}
	l.stamp = max(l.stamp, latest(b))
	return b, api.OK
}
