package hot

import (
	"slices"

	"drydock/api"
)

// sector is the sector of the device in which a byte of a box lies.
func (h *Hot) sector(box, at int) int {
	return h.c.First + box*h.c.Sectors + at/api.BlockSize
}

// read is so many bytes of a box, from one of them on.
func (h *Hot) read(box, from, n int) ([]byte, error) {
	var all []byte
	for len(all) < n {
		at := from + len(all)
		b, err := h.d.Read(h.sector(box, at))
		if err != nil {
			return nil, err
		}
		b = b[at%api.BlockSize:]
		all = append(all, b[:min(len(b), n-len(all))]...)
	}
	return all, nil
}

// write lays bytes into a box, from one of its bytes on; behind them the device lays noughts.
func (h *Hot) write(box, from int, b []byte) error {
	n := from % api.BlockSize
	ahead, err := h.read(box, from-n, n)
	if err != nil {
		return err
	}
	sector := h.sector(box, from)
	for part := range slices.Chunk(slices.Concat(ahead, b), api.BlockSize) {
		if err := h.d.Write(sector, part); err != nil {
			return err
		}
		sector++
	}
	return nil
}
