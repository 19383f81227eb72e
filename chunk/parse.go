package chunk

import (
	"burnish/api"
	"burnish/sums"
)

// Parse is the chunks of bytes.
func Parse(b []byte) ([]api.Chunk, error) {
	if len(b) > api.MaxInput {
		return nil, api.ErrTooLarge
	}
	if !Signed(b) {
		return nil, api.ErrMalformed
	}
	r := &reader{b[len(signature):]}
	var list []api.Chunk
	for {
		c, err := r.chunk()
		if err != nil {
			return nil, err
		}
		list = append(list, c)
		if c.Name == last {
			break
		}
	}
	if len(r.left) > 0 {
		return nil, api.ErrMalformed
	}
	return list, nil
}

// reader reads bytes from their beginning.
type reader struct {
	left []byte
}

// chunk reads a chunk. Each thing is checked as soon as it is read.
func (r *reader) chunk() (api.Chunk, error) {
	length, err := r.number()
	if err != nil {
		return api.Chunk{}, err
	}
	if length > most {
		return api.Chunk{}, api.ErrMalformed
	}
	name, err := r.take(nameSize)
	if err != nil {
		return api.Chunk{}, err
	}
	if !Named(string(name)) {
		return api.Chunk{}, api.ErrMalformed
	}
	data, err := r.take(length)
	if err != nil {
		return api.Chunk{}, err
	}
	sum, err := r.number()
	if err != nil {
		return api.Chunk{}, err
	}
	if sum != sums.Crc(name, data) || string(name) == last && length > 0 {
		return api.Chunk{}, api.ErrMalformed
	}
	return clone(api.Chunk{Name: string(name), Data: data}), nil
}

// number reads a length or a CRC.
func (r *reader) number() (int, error) {
	b, err := r.take(numberSize)
	if err != nil {
		return 0, err
	}
	n, _, err := sums.Take(b, numberSize)
	return n, err
}

// take reads that many bytes.
func (r *reader) take(size int) ([]byte, error) {
	if size > len(r.left) {
		return nil, api.ErrEnd
	}
	out := r.left[:size]
	r.left = r.left[size:]
	return out, nil
}
