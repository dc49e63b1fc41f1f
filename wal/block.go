package wal

import (
	"brickyard/api"
	"brickyard/sum"
)

// A block of the log, and a head, is: the stamp, a page's bytes, the stamp, the sum. Of two writes of one block with
// different stamps no torn one is whole: that the stamp is new at both ends says that all between them is new.
const (
	sumBytes   = 4
	stampBytes = (api.BlockSize - api.PageSize - sumBytes) / 2
	behindPage = stampBytes + api.PageSize
	numberSize = 2
	byteBits   = 8
)

type page [api.PageSize]byte

// seal answers the block with this stamp and these bytes, of which there are at most PageSize.
func seal(stamp uint64, body []byte) []byte {
	var b [api.BlockSize - sumBytes]byte
	put(b[:stampBytes], stamp)
	copy(b[stampBytes:], body)
	put(b[behindPage:], stamp)
	return sum.Seal(b[:])
}

// unseal answers the stamp and the bytes of a block, and whether it is whole.
func unseal(block []byte) (stamp uint64, body page, whole bool) {
	b, whole := sum.Open(block)
	if !whole {
		return 0, page{}, false
	}
	stamp = get(b[:stampBytes])
	if stamp != get(b[behindPage:]) {
		return 0, page{}, false
	}
	return stamp, page(b[stampBytes:behindPage]), true
}

// latest answers the higher one of the stamps that stand at the ends of a block, be it whole or torn.
func latest(block []byte) uint64 {
	return max(get(block[:stampBytes]), get(block[behindPage:behindPage+stampBytes]))
}

// record answers how many images there are, and the numbers of their pages.
func record(images []api.Image) []byte {
	r := numberBytes(len(images))
	for _, image := range images {
		r = append(r, numberBytes(image.Page)...)
	}
	return r
}

// numberAt answers the record's number i: the first one is how many others there are.
func numberAt(record page, i int) int {
	return int(get(record[numberSize*i:][:numberSize]))
}

func numberBytes(n int) []byte {
	b := make([]byte, numberSize)
	put(b, uint64(n))
	return b
}

// put writes the lowest byte first, as many as there is room for.
func put(room []byte, n uint64) {
	for i := range room {
		room[i] = byte(n >> (byteBits * i))
	}
}

func get(b []byte) (n uint64) {
	for i, x := range b {
		n |= uint64(x) << (byteBits * i)
	}
	return n
}

// round answers the place in the log that n stands for: behind the last one comes the first.
func round(n int) int { return n % api.LogBlocks }
