/- ShadowSpoilt returns true and writes nothing that was there; no condition. -/
import Derived.Test.YtcpapdpnnlnemaaShSpoilt1
import Derived.Test.YtcpapdpnnlnemaaShSpoilt2
namespace Go.Proofs.Ytcpapdpnnlnemaa
open Go.RowKit Go.Maps

theorem shadowSpoilt_any {x y : Value} {one two : Bytes} (g : Nat) (older : Bool) (at_ t : Nat) (w : World) (h1 : Bs w x one) (h2 : Bs w y two) (_ : g < 18446744073709551616) (hat : at_ < 65536) (ht : t < 4294967296) :
    Calls Try.prog 5 #[.int .u64 (g : Int), x, y, .bool older, .int .u16 (at_ : Int), .int .u32 (t : Int)] w (Yes w) := by
  by_cases h : 480 < one.length ∨ 480 < two.length ∨ g < 1 ∨ 2305843009213693952 < g
  · exact spoilt_few g older at_ t w h1 h2 h
  · cases older
    · exact spoilt_false g at_ t w h1 h2 hat ht (by omega) (by omega) (by omega) (by omega)
    · exact spoilt_true g at_ t w h1 h2 hat ht (by omega) (by omega) (by omega) (by omega)
end Go.Proofs.Ytcpapdpnnlnemaa
