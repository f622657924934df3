/- What a call answers out of a cell; no condition. -/
import Derived.Test.YtmdjgkclbjbdiaaFoot
namespace Go.Proofs.Ytmdjgkclbjbdiaa

theorem jresults_cell {P : Program} {fn : Func} {t : Tmp} {ty : TypeId} (h : fn.results = #[.cell t ty]) {tmps : Array Value} {w : World} {a : Addr} {v : Value} (ha : tmps.getD t undef = .pointer (some a))
    (hl : (loadVar ty a).run P w = .ok v w) : (results fn tmps).run P w = .ok v w := by
  have ha' : tmps[t]?.getD undef = .pointer (some a) := by rw [← Array.getD_eq_getD_getElem?]; exact ha
  simp [results, h, ha', asAddr, hl]
theorem jresults_two {P : Program} {fn : Func} {t u : Tmp} {ty tz : TypeId} (h : fn.results = #[.cell t ty, .cell u tz]) {tmps : Array Value} {w : World} {a a2 : Addr} {v v2 : Value} (ha : tmps.getD t undef = .pointer (some a)) (ha2 : tmps.getD u undef = .pointer (some a2))
    (hl : (loadVar ty a).run P w = .ok v w) (hl2 : (loadVar tz a2).run P w = .ok v2 w) : (results fn tmps).run P w = .ok (.tuple #[v, v2]) w := by
  have ha' : tmps[t]?.getD undef = .pointer (some a) := by rw [← Array.getD_eq_getD_getElem?]; exact ha
  have ha2' : tmps[u]?.getD undef = .pointer (some a2) := by rw [← Array.getD_eq_getD_getElem?]; exact ha2
  simp [results, h, ha', ha2', asAddr, hl, hl2]
end Go.Proofs.Ytmdjgkclbjbdiaa
