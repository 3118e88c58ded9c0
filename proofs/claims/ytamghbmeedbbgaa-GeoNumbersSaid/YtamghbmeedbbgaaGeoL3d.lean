import Derived.Test.YtamghbmeedbbgaaGeoL3b
import Derived.Test.YtamghbmeedbbgaaGeoL3c
namespace Go.Proofs.Ytamghbmeedbbgaa
open Go.RowKit

theorem geoNumbers_any (hS : GeoSays) (g : GeoV) (a b : Int) (w : World) (h1 : g.Fits) (h2 : I64 a) (h3 : I64 b) : Calls Try.prog 8 #[.agg (gcs g), .int .i64 a, .int .i64 b] w fun e w' => e = .returned (.bool true) ∧ Below w.heap.size w w' := by
  cases qa : inInode g a <;> cases qb : inInode g b
  · exact geoNumbers_ff hS g a b w h1 h2 h3 qa qb
  · exact geoNumbers_ft hS g a b w h1 h2 h3 qa qb
  · exact geoNumbers_tf hS g a b w h1 h2 h3 qa qb
  · exact geoNumbers_tt hS g a b w h1 h2 h3 qa qb
end Go.Proofs.Ytamghbmeedbbgaa
