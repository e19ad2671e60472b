package image_test

import (
	"bytes"
	"slices"
	"testing"

	"lamplighter/api"
	"lamplighter/image"
)

// TestP43ReadOfBytes: what is read of the bytes is the image.
func TestP43ReadOfBytes(t *testing.T) {
	for n, m := range valids(t) {
		b, e := image.Bytes(m)
		if e != api.OK {
			t.Fatalf("image %d: error %d", n, e)
		}
		if got, e := image.Read(b); e != api.OK || !image.Same(got, m) {
			t.Errorf("image %d: Read of Bytes = %+v, %d; want %+v", n, got, e, m)
		}
	}
}

// TestP43NoOtherBytes: bytes that are read are those of the image read,
// whatever was done to them.
func TestP43NoOtherBytes(t *testing.T) {
	r := numbers(44)
	read := 0
	for range 8000 {
		b, _ := image.Bytes(random(&r))
		at := r.below(len(b))
		switch r.below(5) {
		case 0:
			b[at] ^= 1 << r.below(8)
		case 1:
			b[at] = byte(r.word())
		case 2:
			b = slices.Insert(b, at, byte(r.one(0, 1, 0x80)))
		case 3:
			b = slices.Delete(b, at, at+1)
		case 4: // a longer varint of the same number
			for b[at] >= 0x80 {
				at++
			}
			b = slices.Insert(b, at+1, 0)
			b[at] |= 0x80
		}
		m, e := image.Read(b)
		if e != api.OK {
			continue
		}
		read++
		if again, e := image.Bytes(m); e != api.OK || !bytes.Equal(again, b) {
			t.Fatalf("%x was read, but the bytes are %x, %d", b, again, e)
		}
	}
	if read < 100 {
		t.Errorf("only %d were read", read)
	}
}

// TestP43LongerVarints: no number of an image may be written in one byte more.
func TestP43LongerVarints(t *testing.T) {
	b, _ := image.Bytes(firmware(t))
	for at, x := range b {
		if x >= 0x80 {
			continue
		}
		for more := 1; more <= 6; more++ {
			long := slices.Clone(b)
			long[at] |= 0x80
			long = slices.Insert(long, at+1, bytes.Repeat([]byte{0x80}, more)...)
			long[at+more] = 0
			refused(t, long)
		}
	}
}

// TestP43Order: each function comes once, after all that it calls.
func TestP43Order(t *testing.T) {
	for n, m := range valids(t) {
		l := image.Order(m)
		if len(l) != len(m.Funcs) {
			t.Errorf("image %d: Order = %v for %d functions", n, l, len(m.Funcs))
		}
		for at, f := range l {
			if slices.Contains(l[:at], f) {
				t.Errorf("image %d: Order = %v: %d comes twice", n, l, f)
			}
			for _, g := range image.Calls(m, f) {
				if !slices.Contains(l[:at], g) {
					t.Errorf("image %d: Order = %v: %d ahead of %d, which it calls", n, l, f, g)
				}
			}
		}
	}
}
