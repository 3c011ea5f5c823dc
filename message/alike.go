package message

import (
	"slices"

	"hawser/api"
)

// Alike answers whether two messages are the same, whether they may be or not.
func Alike(a, b api.Msg) bool {
	return a.Kind == b.Kind && a.From == b.From && a.To == b.To &&
		a.Epoch == b.Epoch && a.Attempt == b.Attempt && a.Client == b.Client &&
		a.Number == b.Number && a.Seq == b.Seq && a.Key == b.Key &&
		a.Op == b.Op && a.Update == b.Update && a.Result == b.Result &&
		a.Row == b.Row && a.Found == b.Found && a.Level == b.Level && a.Token == b.Token &&
		a.Config.Epoch == b.Config.Epoch && slices.Equal(a.Config.Chain, b.Config.Chain) &&
		slices.Equal(a.Buckets, b.Buckets) && slices.Equal(a.Digests, b.Digests) &&
		alikeChunks(a.Chunk, b.Chunk)
}

func alikeChunks(a, b api.Chunk) bool {
	return a.Index == b.Index && a.Last == b.Last && slices.EqualFunc(a.Pieces, b.Pieces, alikePieces)
}

func alikePieces(a, b api.Piece) bool {
	return a.Bucket == b.Bucket && a.First == b.First && a.Last == b.Last && slices.Equal(a.Rows, b.Rows)
}
