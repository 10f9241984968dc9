// Package acts: transactions, and the bytes that they are.
package acts

import (
	"forks/api"
	"forks/wire"
)

// Encode tells a transaction's bytes; ErrForm: it is none.
func Encode(t api.Tx) (string, error) {
	if !isTx(t) {
		return "", api.ErrForm
	}
	return string(wire.PutList(nil, t.Acts, putAct)), nil
}

// Decode tells the transaction that has these bytes; ErrForm: there is none.
func Decode(s string) (api.Tx, error) { return wire.Read(s, readTx) }

func putAct(b []byte, a api.Act) []byte {
	b = wire.PutStr(append(b, byte(a.Kind)), a.Table)
	if a.Kind == api.Create {
		return wire.PutStr(b, a.Kinds)
	}
	return wire.PutList(b, a.Row, putValue)
}

func putValue(b []byte, v api.Value) []byte {
	switch x := v.(type) {
	case api.Number:
		b = wire.PutNum(append(b, number), int64(x))
	case api.Text:
		b = wire.PutStr(append(b, text), string(x))
	}
	return b
}

// readTx reads any numbers and lengths, and asks afterwards: what a transaction is stands in one place for both ways.
func readTx(r *wire.Reader) api.Tx {
	t := api.Tx{Acts: wire.List(r, readAct)}
	if !isTx(t) {
		panic(api.ErrForm)
	}
	return t
}

func readAct(r *wire.Reader) api.Act {
	a := api.Act{Kind: int(r.Byte()), Table: r.Str()}
	if a.Kind == api.Create {
		a.Kinds = r.Str()
	} else {
		a.Row = wire.List(r, readValue)
	}
	return a
}

func readValue(r *wire.Reader) api.Value {
	switch r.Byte() {
	case number:
		return api.Number(r.Num())
	case text:
		return api.Text(r.Str())
	default:
		panic(api.ErrForm)
	}
}
