package chunk

import (
	"encoding/binary"
	"hash/crc32"
	"strings"

	"burnish/api"
)

// Here is what the tests hold the package against: the document's words for chunks, with the library's numbers and CRC.

// mark is the signature.
const mark = "\x89\x50\x4e\x47\x0d\x0a\x1a\x0a"

// abc is the letters of names.
const abc = "abcdefghijklmnopqrstuvwxyzABCDEFGHIJKLMNOPQRSTUVWXYZ"

// iend is the last chunk's bytes.
const iend = "\x00\x00\x00\x00\x49\x45\x4e\x44\xae\x42\x60\x82"

// pick is a number from 0 to n-1, the same each time for a seed.
func pick(seed *uint64, n int) int {
	*seed = *seed*6364136223846793005 + 1442695040888963407
	return int((*seed >> 33) % uint64(n))
}

func four(n uint32) string {
	return string(binary.BigEndian.AppendUint32(nil, n))
}

// plain is a chunk's bytes, whatever its name.
func plain(name, data string) string {
	return four(uint32(len(data))) + name + data + four(crc32.ChecksumIEEE([]byte(name+data)))
}

// plainNamed tells whether a text is four letters.
func plainNamed(s string) bool {
	return len(s) == 4 && strings.Trim(s, abc) == ""
}

// plainParse is the chunks of bytes, or the first error.
func plainParse(s string) ([]api.Chunk, error) {
	if len(s) > 1048576 {
		return nil, api.ErrTooLarge
	}
	if !strings.HasPrefix(s, mark) {
		return nil, api.ErrMalformed
	}
	s = s[8:]
	var list []api.Chunk
	for {
		if len(s) < 4 {
			return nil, api.ErrEnd
		}
		length := int(binary.BigEndian.Uint32([]byte(s)))
		if length > 2147483647 {
			return nil, api.ErrMalformed
		}
		if len(s) < 8 {
			return nil, api.ErrEnd
		}
		name := s[4:8]
		if !plainNamed(name) {
			return nil, api.ErrMalformed
		}
		if len(s) < 12+length {
			return nil, api.ErrEnd
		}
		data := s[8 : 8+length]
		if s[:12+length] != plain(name, data) || name == "IEND" && length > 0 {
			return nil, api.ErrMalformed
		}
		s = s[12+length:]
		list = append(list, api.Chunk{Name: name, Data: []byte(data)})
		if name == "IEND" {
			break
		}
	}
	if s != "" {
		return nil, api.ErrMalformed
	}
	return list, nil
}

// plainWrite is chunks' bytes, or the first error.
func plainWrite(list []api.Chunk) (string, error) {
	for _, c := range list {
		if !plainNamed(c.Name) {
			return "", api.ErrForm
		}
	}
	if len(list) == 0 || list[len(list)-1].Name != "IEND" || len(list[len(list)-1].Data) > 0 {
		return "", api.ErrForm
	}
	for _, c := range list[:len(list)-1] {
		if c.Name == "IEND" {
			return "", api.ErrForm
		}
	}
	size := 8
	for _, c := range list {
		size += 12 + len(c.Data)
	}
	if size > 1048576 {
		return "", api.ErrTooLarge
	}
	out := mark
	for _, c := range list {
		out += plain(c.Name, string(c.Data))
	}
	return out, nil
}

// someName is a name other than IEND, now and then a known one.
func someName(seed *uint64) string {
	known := []string{"IHDR", "PLTE", "IDAT", "tEXt", "tRNS", "prVt", "IENd", "iEND", "AAAA", "zzzz", "aZzA"}
	if n := pick(seed, 2*len(known)); n < len(known) {
		return known[n]
	}
	b := make([]byte, 4)
	for i := range b {
		b[i] = abc[pick(seed, len(abc))]
	}
	if string(b) == "IEND" {
		return "IDAT"
	}
	return string(b)
}

// someData is up to that many bytes.
func someData(seed *uint64, most int) []byte {
	b := make([]byte, pick(seed, most+1))
	for i := range b {
		b[i] = byte(pick(seed, 256))
	}
	return b
}

// someChunks is up to that many chunks, and IEND behind them.
func someChunks(seed *uint64, most, data int) []api.Chunk {
	var list []api.Chunk
	for range pick(seed, most+1) {
		list = append(list, api.Chunk{Name: someName(seed), Data: someData(seed, data)})
	}
	return append(list, api.Chunk{Name: "IEND"})
}
