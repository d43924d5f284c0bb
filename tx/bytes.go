package tx

import (
	"tallystick/api"
	"tallystick/wire"
)

// laid is a transaction as bytes. How an input's way is laid makes them all its bytes, or its core.
func laid(t api.Tx, layWay func(*wire.Writer, api.In)) []byte {
	w := wire.New()
	w.Number(t.Number, int64(len(t.Ins)))
	for _, in := range t.Ins {
		w.Hash(in.Name)
		w.Number(in.Index)
		layWay(w, in)
	}
	w.Number(int64(len(t.Outs)))
	named := kinds()
	for _, o := range t.Outs {
		w.Number(int64(o.Kind), o.Amount)
		layParts(w, o, named[o.Kind]...)
	}
	return w.All()
}

func withWays() func(*wire.Writer, api.In) {
	named := ways()
	return func(w *wire.Writer, in api.In) {
		w.Number(int64(in.Way))
		layParts(w, in, named[in.Way]...)
	}
}

func withoutWays(*wire.Writer, api.In) {}

// mustRead takes a transaction off its bytes; it gives up where they are none's.
func mustRead(r *wire.Reader) api.Tx {
	t := api.Tx{Number: mustNumber(r, api.MaxNumber)}
	wayNames, kindNames := ways(), kinds()
	for range mustNumber(r, api.MaxOuts) {
		in := api.In{Name: must(r.Hash()), Index: mustNumber(r, api.MaxOuts-1)}
		in.Way = api.WayKind(mustNumber(r, int64(api.WayTime)))
		t.Ins = append(t.Ins, mustReadParts(r, in, wayNames[in.Way]...))
	}
	for range mustNumber(r, api.MaxOuts) {
		o := api.Out{Kind: api.OutKind(mustNumber(r, int64(api.OutTaken))), Amount: mustNumber(r, api.MaxAmount)}
		t.Outs = append(t.Outs, mustReadParts(r, o, kindNames[o.Kind]...))
	}
	// What each part may be does not tell yet that all may be together.
	if r.End() != api.OK || Check(t) != api.OK {
		panic(api.ErrTx)
	}
	return t
}

func mustNumber(r *wire.Reader, most int64) int64 { return must(r.Number(most)) }

// must gives up where something could not be read.
func must[V any](x V, e api.Errno) V {
	if e != api.OK {
		panic(api.ErrTx)
	}
	return x
}

// tried lets something be read, and tells by which error it gave up.
func tried(read func()) (e api.Errno) {
	// No call panics: what gives up by something else was no transaction either.
	e = api.ErrTx
	defer func() {
		if no, gaveUp := recover().(api.Errno); gaveUp {
			e = no
		}
	}()
	read()
	return api.OK
}
