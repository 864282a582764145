// Package key has keys, and where they lie on the ring.
package key

import "rosary/api"

// width is how many bytes of a key say where it lies.
const width = 8

// Right tells what is wrong with a key.
func Right(k string) api.Errno {
	if len(k) == 0 || len(k) > api.MaxKey {
		return api.ErrKey
	}
	return api.OK
}

// Value tells what is wrong with a value.
func Value(v string) api.Errno {
	if len(v) > api.MaxValue {
		return api.ErrValue
	}
	return api.OK
}

// Addr tells where a key lies.
// It takes wrong keys too: the ends of a range need not be keys.
func Addr(k string) uint64 {
	var a uint64
	at := 0
bytes:
	for {
		switch at {
		case len(k), width:
			break bytes
		default:
			a |= uint64(k[at]) << (8 * (width - 1 - at))
			at++
		}
	}
	return a
}

// Less tells whether a key comes first.
func Less(a, b string) bool {
	// The language holds texts against each other byte by byte, as the ring does.
	return a < b
}

// First tells the least text that lies there.
func First(a uint64) string {
	var text []byte
	// What is left of a is 0 where only zeros follow: a text with them would not be the least.
	for ; a != 0; a <<= 8 {
		text = append(text, byte(a>>(8*(width-1))))
	}
	return string(text)
}

// Past tells the least text behind a key.
func Past(k string) string {
	return k + "\x00"
}
