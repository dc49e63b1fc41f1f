package wal

import (
	"bytes"
	"slices"
	"testing"

	"brickyard/api"
	"brickyard/sum"
)

func filled(x byte) []byte { return bytes.Repeat([]byte{x}, api.PageSize) }

func TestBlock(t *testing.T) {
	for _, stamp := range []uint64{0, 1, 255, 256, 1 << 31, 1<<48 - 1} {
		b := seal(stamp, filled(7))
		if len(b) != api.BlockSize {
			t.Fatalf("%d bytes", len(b))
		}
		got, body, whole := unseal(b)
		if got != stamp || !bytes.Equal(body[:], filled(7)) || !whole {
			t.Errorf("stamp %d: %d, %x, %v", stamp, got, body, whole)
		}
		if latest(b) != stamp {
			t.Errorf("stamp %d: the latest is %d", stamp, latest(b))
		}
	}
	if _, _, whole := unseal(make([]byte, api.BlockSize)); whole {
		t.Error("noughts are whole")
	}
}

// By the sum: whichever byte is another one, the block is not whole.
func TestBlockIsKnownByItsSum(t *testing.T) {
	b := seal(300, filled(7))
	for i := range b {
		for bit := range 8 {
			c := slices.Clone(b)
			c[i] ^= 1 << bit
			if stamp, body, whole := unseal(c); whole || stamp != 0 || body != (page{}) {
				t.Errorf("byte %d: %d, %x, %v", i, stamp, body, whole)
			}
		}
	}
}

// By the stamps: blocks whose sum is right are not whole if the ends are of two writes.
func TestBlockIsKnownByItsStamps(t *testing.T) {
	older, newer := seal(511, filled(1)), seal(512, filled(1))
	for torn := range api.BlockSize - sumBytes + 1 {
		b := sum.Seal(slices.Concat(newer[:torn], older[torn:api.BlockSize-sumBytes]))
		stamp, _, whole := unseal(b)
		same := bytes.Equal(b, older) || bytes.Equal(b, newer)
		if whole != same || !same && stamp != 0 {
			t.Errorf("torn at %d: %d, %v", torn, stamp, whole)
		}
		if got := latest(b); !(got == 512 || got == 511 && torn < stampBytes) {
			t.Errorf("torn at %d: the latest is %d", torn, got)
		}
	}
}

func TestRecord(t *testing.T) {
	var images []api.Image
	for i := range api.MaxImages {
		images = append(images, api.Image{Page: api.MaxBlocks - 1 - i*50})
	}
	_, names, _ := unseal(seal(1, record(images)))
	if n := numberAt(names, 0); n != api.MaxImages {
		t.Errorf("%d images", n)
	}
	for i, image := range images {
		if got := numberAt(names, 1+i); got != image.Page {
			t.Errorf("image %d: page %d, want %d", i, got, image.Page)
		}
	}
}
