package simdisk

// file: its bytes, of which the first are sure, and how long each piece
// behind these is.
type file struct {
	bytes  []byte
	sure   int
	pieces []int
}

func (f *file) extend(b []byte) {
	if len(b) > 0 {
		f.bytes = append(f.bytes, b...)
		f.pieces = append(f.pieces, len(b))
	}
}

func (f *file) sync() { f.sure, f.pieces = len(f.bytes), nil }

// crash: a lost piece is zeros, which stay only where a kept one is behind them.
func (f *file) crash(kept func() bool) {
	at, end := f.sure, f.sure
	for _, n := range f.pieces {
		next := at + n
		if kept() {
			end = next
		} else {
			clear(f.bytes[at:next])
		}
		at = next
	}
	f.bytes = f.bytes[:end]
	f.sync()
}
