package digest

import (
	"forks/api"
	"forks/wire"
)

const (
	word    = "fork"
	stories = 2
	maxSign = 255 // its length stands in one byte
)

// Evidence tells the bytes of two digests that one key has signed. There are none if a signature is too long to be written down: cut short, it would show nothing.
func Evidence(kept, other api.Digest) string {
	if len(kept.Sign) > maxSign || len(other.Sign) > maxSign {
		return ""
	}
	return string(wire.PutList(wire.PutStr(nil, word), []api.Digest{kept, other}, put))
}

// Stories tells the two digests of an evidence, as they stand there: any number, a root that may be too short; ErrForm: it is none.
func Stories(evidence string) ([]api.Digest, error) { return wire.Read(evidence, readStories) }

func put(b []byte, d api.Digest) []byte {
	b = wire.PutNum(wire.PutNum(b, int64(d.Key)), int64(d.Size))
	return wire.PutStr(wire.PutStr(b, d.Root), d.Sign)
}

func readStories(r *wire.Reader) []api.Digest {
	if r.Str() != word {
		panic(api.ErrForm)
	}
	l := wire.List(r, read)
	if len(l) != stories {
		panic(api.ErrForm)
	}
	return l
}

func read(r *wire.Reader) api.Digest {
	d := api.Digest{Key: int(r.Num()), Size: int(r.Num()), Root: r.Str(), Sign: r.Str()}
	if len(d.Root) > api.HashLen {
		panic(api.ErrForm)
	}
	return d
}
