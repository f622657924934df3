/- The anchor of the statements of layer 1 (the chapter's examples) returns true and writes nothing that was there; no condition. -/
import Derived.Test.YtnfmbggffmloeaaOctRefTake
import Derived.Lib.SlBytesConst
namespace Go.Proofs.Ytnfmbggffmloeaa
open Go.RowKit

/-- A literal slice of bytes, in the block that was laid for it. -/
theorem bs_lit (w : World) (cs : Array Value) (l : List UInt8) (n : Nat) (h : cs = (bvs l).toArray) (hn : n = l.length) (hm : l.length ≤ 1000) :
    Bs (w.alloc (.cells cs 5)) (.slice (some ⟨w.heap.size, 0, none⟩) n n) l := by
  subst h; subst hn
  exact (Ow.lit w w.heap.size 5 l (Nat.le_refl _) (by unfold maxLen; omega)).bs

theorem below_lit (w : World) (cs : Array Value) : Below w.heap.size w (w.alloc (.cells cs 5)) := (Below.refl _ _).alloc (Nat.le_refl _) _

/-- A literal slice of bytes that was made of a constant text: its block bears a mark. -/
theorem bs_text (w : World) (cs : Array Value) (l : List UInt8) (n : Nat) (fr : Nat × Nat) (h : cs = (bvs l).toArray) (hn : n = l.length) (hm : l.length ≤ 1000) :
    Bs (w.alloc (.cells cs 5 fr)) (.slice (some ⟨w.heap.size, 0, none⟩) n n) l := by
  subst h; subst hn
  refine ⟨_, l.length, rfl, Nat.le_refl _, by unfold maxLen; omega, (fun h => by cases h), fun ad had i u hu => ?_⟩
  cases had
  rw [Addr.add_lit, Nat.zero_add, World.cell?_alloc_mark]
  simpa using hu

theorem below_text (w : World) (cs : Array Value) (fr : Nat × Nat) : Below w.heap.size w (w.alloc (.cells cs 5 fr)) := (Below.refl _ _).alloc (Nat.le_refl _) _

theorem run_convert_second (w : World) (o : Obj) (C : Array Value) (n c : Nat) :
    (convert 22 22 (.slice (some ⟨w.heap.size + 1, 0, none⟩) n c)).run Try.prog ((w.alloc o).alloc (.cells C 5)) =
      .ok (.slice (some ⟨w.heap.size + 1, 0, none⟩) n c) ((w.alloc o).alloc (.cells C 5 (C.size, C.size + 1))) := by
  have h := Lib.run_convert_bytes_const (P := Try.prog) (w.alloc o) 22 5 C n c Try.underlying22 Try.underlying5
  have e : (w.alloc o).heap.size = w.heap.size + 1 := by simp
  rw [e] at h
  exact h

set_option maxRecDepth 100000 in
set_option maxHeartbeats 1000000 in
theorem works_any (w : World) : Calls Try.prog 10 #[] w fun e w' => e = .returned (.bool true) ∧ Below w.heap.size w w' := by
  have t1 : takeN [1, 2, 3] 1 2 = 515 := by decide
  have t2 : takeX [1, 2, 3] 1 2 = 3 := by decide
  have t3 : takeE [1, 2, 3] 1 2 = 0 := by decide
  have s1 : putsL [] [97, 98] = [0, 2, 97, 98] := by decide
  have b1 : tbL [0, 2, 97, 98, 99] 0 = [97, 98] := by decide
  have b2 : tbX [0, 2, 97, 98, 99] 0 = 4 := by decide
  have b3 : tbE [0, 2, 97, 98, 99] 0 = 0 := by decide
  have c1 : Lib.compareBytes [97] [97, 98] = -1 := by decide
  have p1 : putL [] 513 2 = [2, 1] := by decide
  have H := Lib.hid (And.intro t1 (And.intro t2 (And.intro t3 (And.intro s1 (And.intro b1 (And.intro b2 (And.intro b3 (And.intro c1 p1))))))))
  clear t1 t2 t3 s1 b1 b2 b3 c1 p1
  have hcv := fun (w : World) (C : Array Value) (n c : Nat) => Lib.run_convert_bytes_const (P := Try.prog) w 22 5 C n c Try.underlying22 Try.underlying5
  have hcv2 := run_convert_second
  go_enter Try.func10, Try.ntmps10
  go_wp2_with fail
  refine (take_any 1 2 _ (bs_lit w _ [1, 2, 3] 3 rfl rfl (by decide)) (by decide)).mono ?_
  rintro e w1 ⟨he, hb1⟩
  obtain ⟨t1, t2, t3, s1, b1, b2, b3, c1, p1⟩ := H.out
  rw [t1, t2, t3] at he
  subst he
  clear t1 t2 t3 s1 b1 b2 b3 c1 p1
  go_wp2_with fail
  refine (putBytes_any _ (Bs.nil _) (bs_text w1 _ [97, 98] 2 (2, 3) rfl rfl (by decide)) (by decide) (by decide)).mono ?_
  rintro e w2 ⟨v2, rfl, ho2, hb2⟩
  go_wp2_with fail
  refine (takeBytes_any 0 _ (bs_lit w2 _ [0, 2, 97, 98, 99] 5 rfl rfl (by decide)) (by decide)).mono ?_
  rintro e w3 ⟨v3, he, ho3, hb3⟩
  obtain ⟨t1, t2, t3, s1, b1, b2, b3, c1, p1⟩ := H.out
  rw [b2, b3] at he
  subst he
  rw [b1] at ho3
  rw [s1] at ho2
  clear t1 t2 t3 s1 b1 b2 b3 c1 p1
  have k2 := run_string_bs bt (d := 9) Try.underlying9 w3 ((ho2.bs.below (below_lit _ _)).below hb3)
  have k3 := run_string_bs bt (d := 9) Try.underlying9 w3 ho3.bs
  go_wp2_with fail
  refine (order_any _ ((bs_text w3 _ [97] 1 (1, 2) rfl rfl (by decide)).below (below_text _ _ _)) (by have h := bs_text (w3.alloc (.cells (bvs [97]).toArray 5 (1, 2))) _ [97, 98] 2 (2, 3) rfl rfl (by decide); rw [World.size_alloc] at h; exact h)).mono ?_
  rintro e w4 ⟨he, rfl⟩
  obtain ⟨t1, t2, t3, s1, b1, b2, b3, c1, p1⟩ := H.out
  rw [c1] at he
  subst he
  clear t1 t2 t3 s1 b1 b2 b3 c1 p1
  go_wp2_with fail
  refine (put_any 513 2 _ (Bs.nil _) (by decide)).mono ?_
  rintro e w5 ⟨v5, rfl, ho5, hb5⟩
  obtain ⟨t1, t2, t3, s1, b1, b2, b3, c1, p1⟩ := H.out
  rw [p1] at ho5
  clear t1 t2 t3 s1 b1 b2 b3 c1 p1
  have k5 := run_string_bs bt (d := 9) Try.underlying9 w5 ho5.bs
  go_wp2_with fail
  refine (after_any _ (bs_text w5 _ [97] 1 (1, 2) rfl rfl (by decide)) (by decide)).mono ?_
  rintro e w6 ⟨v6, rfl, ho6, hb6⟩
  have k6 := run_string_bs bt (d := 9) Try.underlying9 w6 ho6.bs
  go_wp2
  go_ret
  refine ⟨rfl, ?_⟩
  have g1 := (below_lit w #[.int .u8 1, .int .u8 2, .int .u8 3]).trans (hb1.mono (by simp))
  have g2 := g1.trans (((below_text w1 _ (2, 3)).trans (hb2.mono (by simp))).mono g1.size)
  have g3 := g2.trans (((below_lit w2 _).trans (hb3.mono (by simp))).mono g2.size)
  have g4 := g3.trans ((((below_text w3 _ (1, 2)).trans ((below_text _ _ (2, 3)).mono (by simp))).trans (hb5.mono (by simp; omega))).mono g3.size)
  exact g4.trans (((below_text w5 _ (1, 2)).trans (hb6.mono (by simp))).mono g4.size)
end Go.Proofs.Ytnfmbggffmloeaa
