package chunk

import (
	"burnish/api"
	"burnish/sums"
)

// Write is chunks' bytes.
func Write(list []api.Chunk) ([]byte, error) {
	if !inForm(list) {
		return nil, api.ErrForm
	}
	if !fits(list) {
		return nil, api.ErrTooLarge
	}
	out := []byte(signature)
	for _, c := range list {
		more, err := appended(out, c)
		if err != nil {
			return nil, err
		}
		out = more
	}
	return out, nil
}

// inForm tells whether chunks have names and the last one, and no other, is what the last one has to be.
func inForm(list []api.Chunk) bool {
	for at, c := range list {
		isLast := at == len(list)-1
		if !Named(c.Name) || (c.Name == last) != isLast || isLast && len(c.Data) > 0 {
			return false
		}
	}
	return len(list) > 0
}

// fits tells whether there is room for chunks.
func fits(list []api.Chunk) bool {
	room := api.MaxInput - len(signature)
	for _, c := range list {
		room -= frameSize + len(c.Data)
		// Many chunks may share their data: the sum of them all could be any number.
		if room < 0 {
			return false
		}
	}
	return true
}

// appended is bytes with a chunk behind them.
func appended(out []byte, c api.Chunk) ([]byte, error) {
	name := []byte(c.Name)
	length, err := sums.Put(nil, numberSize, len(c.Data))
	if err != nil {
		return nil, err
	}
	sum, err := sums.Put(nil, numberSize, sums.Crc(name, c.Data))
	if err != nil {
		return nil, err
	}
	out = append(out, length...)
	out = append(out, name...)
	out = append(out, c.Data...)
	return append(out, sum...), nil
}
