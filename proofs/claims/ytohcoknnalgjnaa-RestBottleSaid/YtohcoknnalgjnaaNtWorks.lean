/- The statements' anchor: the chapter's examples; no condition. -/
import Derived.Test.YtohcoknnalgjnaaNtFlows
import Derived.Test.YtohcoknnalgjnaaNtSame
namespace Go.Proofs.Ytohcoknnalgjnaa
open Go.RowKit

def exEs : List Ed := [⟨0, 1, 5, 2⟩, ⟨1, 2, 4, -3⟩, ⟨2, 0, 9, 0⟩, ⟨1, 1, 1, 7⟩]
theorem load_net {w : World} {g : Nat} {n : Int} {a : Option Addr} {k c : Nat} (h : Cel w g [.int .i64 n, .slice a k c] 24) : (loadVar 24 ⟨g, 0, none⟩).run Try.prog w = .ok (netV n (.slice a k c)) w := by
  obtain ⟨c0, c1⟩ := h.net
  go_simp

/-- A literal of numbers. -/
theorem fs_lit (w : World) (l : List Int) (cs : Array Value) (hcs : cs = (ivL l).toArray) (hn : l.length ≤ 1000) {n : Nat} (hn' : n = l.length) : Fs (w.alloc (.cells cs 2)) (.slice (some ⟨w.heap.size, 0, none⟩) n n) l := by
  have h := rd_lit kdI w 2 (fun _ => False) (fun _ h => h.elim) l cs (by rw [kdI_cells]; exact hcs) (fun _ _ => trivial) hn hn'
  rwa [show l.map kdI.con = l from List.map_id l] at h
theorem es_lit (w : World) (es : List Ed) (cs : Array Value) (hcs : cs = (kdEd.cells es).toArray) (hn : es.length ≤ 1000) {n : Nat} (hn' : n = es.length) : Es (w.alloc (.cells cs 44)) (.slice (some ⟨w.heap.size, 0, none⟩) n n) es := by
  have h := rd_lit kdEd w 44 (fun _ => False) (fun _ h => h.elim) es cs hcs (fun _ _ => trivial) hn hn'
  rwa [show es.map kdEd.con = es from List.map_id es] at h

theorem ex_right : RightP 3 exEs := by decide
theorem ex_flows : FlowsP 3 exEs [4, 4, 4, 1] := by decide
theorem ex_not : ¬ FlowsP 3 exEs [5, 4, 4, 0] := by decide
theorem ex_out : ¬ WithinP 3 exEs [5, 5, 5, 0] := by decide
theorem ex_over : overP 3 exEs [5, 4, 4, 1] = [-1, 1, 0] := by unfold overP; rw [if_pos (by decide)]; rfl
theorem ex_cost : costP 3 exEs [5, 4, 4, 1] = 5 := by unfold costP; rw [if_pos (by decide)]; rfl
theorem ex_none : ¬ RightP 0 [] := by decide

/-- What stands while the anchor goes on. -/
structure WK (w : World) (c d : Nat) (va : Option Addr) (vc : Nat) (W : World) : Prop where
  under : Below w.heap.size w W
  net : Cel W c [.int .i64 3, .slice va 4 vc] 24
  es : Es W (.slice va 4 vc) exEs
  fl : Fs W (.slice (some ⟨d, 0, none⟩) 4 4) [5, 4, 4, 1]
theorem WK.go {w : World} {c d : Nat} {va : Option Addr} {vc : Nat} {W W' : World} (h : WK w c d va vc W) (hb : Below W.heap.size W W') : WK w c d va vc W' :=
  ⟨h.under.trans (hb.mono h.under.size), h.net.below hb h.net.lt, h.es.below hb, h.fl.below hb⟩
theorem WK.lit {w : World} {c d : Nat} {va : Option Addr} {vc : Nat} {W : World} (h : WK w c d va vc W) (o : Obj) : WK w c d va vc (W.alloc o) := h.go ((Below.refl _ _).alloc (Nat.le_refl _) _)

end Go.Proofs.Ytohcoknnalgjnaa
