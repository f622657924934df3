/- The walk of OctetNumbers: it returns true and writes nothing that was there; no condition. -/
import Derived.Test.YtnfmbggffmloeaaOctSorts
namespace Go.Proofs.Ytnfmbggffmloeaa
open Go.RowKit

set_option maxHeartbeats 400000 in
theorem octetNumbers_v0 {b : Value} {l : List UInt8} (n p k : Int) (w : World) (hb : Bs w b l) (nv : 16384 < l.length) :
    Calls Try.prog 3 #[b, .int .u64 n, .int .i64 p, .int .i64 k] w (Yes w) := by
  go_enter Try.func3, Try.ntmps3
  go_wp2_with fail
  refine (vast_yes _ hb nv).mono ?_
  rintro e w1 ⟨rfl, rfl⟩
  go_wp2_with fail
  refine (works_any _).mono ?_
  rintro e w3 ⟨rfl, b3⟩
  go_wp2
  go_ret
  exact ⟨rfl, b3⟩

section
variable {P : Program} {t e : TypeId}
/-- append within the room: the row stays where it lies. -/
theorem run_append_fits_bs (T : ByteTy P t e) (w : World) (base : Nat) (ty : TypeId) {g cap : Nat} {x : Value} {l m : List UInt8} (hv : Ow w base e (.slice (some ⟨g, 0, none⟩) l.length cap) l) (hx : Bs w x m) (hroom : l.length + m.length ≤ cap) :
    ∃ w', (Builtin.append_ #[t, t] ty #[.slice (some ⟨g, 0, none⟩) l.length cap, x]).run P w = .ok (.slice (some ⟨g, 0, none⟩) (l.length + m.length) cap) w' ∧
      Ow w' base e (.slice (some ⟨g, 0, none⟩) (l.length + m.length) cap) (l ++ m) ∧ w.grownBy w' (some g) := by
  obtain ⟨i, hi, hz, hs, hb⟩ := T.parts
  obtain ⟨a, c, rfl, h2, h3, h4, h5⟩ := hx
  rcases a with _ | ad
  · have hc := h4 rfl
    subst hc
    have hm : m = [] := List.eq_nil_of_length_eq_zero (by omega)
    subst hm
    refine ⟨w, run_append_owned_none (P := P) w base t ty e i 1 T.slice hi _ l.length (bvs l) hv, by simpa using hv, ⟨rfl, rfl, rfl, Nat.le_refl _, fun _ _ _ => rfl⟩⟩
  · obtain ⟨w', hr, ho, hg⟩ := run_append_fits (P := P) w base t ty e i 1 T.slice hi hs g l.length cap (bvs l) hv ad m.length c (bvs m) (by simp [bvs_length]) (h5 ad rfl) bvs_one hroom
    exact ⟨w', hr, by simpa [Ow, bvs_append, List.length_append] using ho, hg⟩

theorem wpList_append_fits_bs (T : ByteTy P t e) {ops : Array Oper} {rest : List Oper} {o : Oper} {a : Act} {w : World} {Q : Exit → Act → World → Prop} (hgd : o.guard = none) (s x : Operand)
    (ho : o.op = .call { callee := .builtin .append, args := #[s, x], argTypes := #[t, t] }) (base : Nat) {g n cap : Nat} {xv : Value} {l m : List UInt8} (hs : a.eval s = .slice (some ⟨g, 0, none⟩) n cap) (hn : n = l.length) (hx : a.eval x = xv)
    (hv : Ow w base e (.slice (some ⟨g, 0, none⟩) l.length cap) l) (hm : Bs w xv m) (hroom : l.length + m.length ≤ cap)
    (h : ∀ w', Ow w' base e (.slice (some ⟨g, 0, none⟩) (l.length + m.length) cap) (l ++ m) → w.grownBy w' (some g) → wpList P ops Q rest (a.put o.dst (.slice (some ⟨g, 0, none⟩) (l.length + m.length) cap)) w') : wpList P ops Q (o :: rest) a w := by
  subst hn
  obtain ⟨w', hr, h2, h3⟩ := run_append_fits_bs T w base o.type hv hm hroom
  refine wpList_plain hgd fun _ hK => ?_
  unfold Oper.wp execOp
  simp only [ho, resolve, invoke, builtin, Sem.run_bind, Sem.run_pure, Result.andThen_ok, List.map_toArray, List.map_cons, List.map_nil, hs, hx, hr]
  exact hK _ _ (h w' h2 h3)
end

/-- What another row keeps while one row is written. -/
theorem Ow.apart {w w' : World} {base : Nat} {e : TypeId} {v : Value} {l : List UInt8} {g : Nat} (h : Ow w base e v l) (hg : w.grownBy w' (some g)) (hlt : g < base) : Ow w' base e v l := by
  refine h.grown hg ?_
  cases hv : v.ownBlock with
  | none => exact .inl rfl
  | some k =>
    refine .inr fun e => ?_
    have := (World.ownsRow.lt h k hv).1
    cases e
    omega

set_option maxHeartbeats 1000000 in
theorem octetNumbers_go {b : Value} {l : List UInt8} (n : Nat) (p k : Int) (w : World) (hb : Bs w b l) (n1 : l.length ≤ 16384) :
    Calls Try.prog 3 #[b, .int .u64 (n : Int), .int .i64 p, .int .i64 k] w (Yes w) := by
  obtain ⟨a0, c0, rfl, hb⟩ := hb.shape
  obtain ⟨w1, hr, ho, hg⟩ := run_make_bs bt w w.heap.size .i64 .i64 (l.length + 20) (by omega) (Nat.le_refl _)
  have b1 : Below w.heap.size w w1 := (Below.refl _ _).grown hg (Nat.le_refl _) (fun _ h => by cases h)
  have hb1 := hb.below b1
  have hroom : ([] : List UInt8).length + l.length ≤ l.length + 20 := by simp
  have hput : (putL l n k).length ≤ 1073741824 := by
    unfold putL
    split
    · rename_i hk
      have := mayB_true hk
      simp [beL_length]
      omega
    · omega
  simp only [Int.natCast_add, Int.cast_ofNat_Int] at hr
  go_enter Try.func3, Try.ntmps3
  go_wp2_with fail
  refine (vast_no _ hb n1).mono ?_
  rintro e w2 ⟨rfl, rfl⟩
  go_wp2_with (first | (at_builtin; refine wpList_append_fits_bs bt rfl (.tmp 24) (.tmp 25) rfl w.heap.size rfl rfl rfl ho hb1 hroom ?_; intro w2 o2 g2))
  simp only [List.length_nil, Nat.zero_add, List.nil_append] at o2
  have b02 : Below w.heap.size w w2 := b1.grown g2 b1.size fun j hj => by cases hj; exact Nat.le_refl _
  have hlt2 := (World.ownsRow.lt o2 w.heap.size rfl).2
  refine (put_any n k _ o2.bs (by omega)).mono ?_
  rintro e w3 ⟨v3, rfl, o3, b3⟩
  have b03 := b02.trans (b3.mono b02.size)
  have o23 := o2.below b3
  have o3h : Ow w3 w2.heap.size 5 v3 (putL l n k) := o3
  go_wp2_with fail
  go_loopw [9, 11] (fun s i wr => ∃ x : List UInt8, x.length ≤ 20 ∧ i = .int .i64 (x.length : Nat) ∧ s = .slice (some ⟨w.heap.size, 0, none⟩) (l.length + x.length) (l.length + 20) ∧ Ow wr w.heap.size 5 s (l ++ x) ∧ Ow wr w2.heap.size 5 v3 (putL l n k) ∧ Below w.heap.size w wr) (fun _ i _ => 20 - (intOf i).toNat)
  case atStart => exact ⟨[], by simp, rfl, rfl, by simpa using o23, o3, b03⟩
  case round =>
    obtain ⟨x, hx, rfl, rfl, hor, h3r, hbr⟩ := hrel
    have hlen : (l ++ x).length = l.length + x.length := List.length_append
    by_cases hlt : x.length < 20
    · have hroom2 : (l ++ x).length + [(238 : UInt8)].length ≤ l.length + 20 := by rw [hlen]; simp; omega
      have hor' : Ow wr w.heap.size 5 (.slice (some ⟨w.heap.size, 0, none⟩) (l ++ x).length (l.length + 20)) (l ++ x) := by rw [hlen]; exact hor
      have Hlen := Lib.hid hlen
      clear hlen hor
      go_wp2_with (at_builtin; refine wpList_append_fits_bs bt rfl _ _ rfl w.heap.size rfl Hlen.out.symm rfl (hor'.below ((Below.refl _ _).alloc (Nat.le_refl _) _)) (Bs.new1 _ _ _ 238 rfl) hroom2 ?_; intro w4 o4 g4)
      go_roundw
      case rel =>
        refine ⟨x ++ [238], by simp; omega, by simp, by simp [Nat.add_assoc], ?_, ?_, ?_⟩
        · rw [Hlen.out] at o4
          rw [← List.append_assoc]
          exact o4
        · exact (h3r.below ((Below.refl _ _).alloc (Nat.le_refl _) _)).apart g4 hlt2
        · exact (hbr.alloc (by have := hbr.size; omega) _).grown g4 (by have := hbr.size; simp; omega) fun j hj => by cases hj; exact Nat.le_refl _
      case measure => simp [intOf]; omega
    · have hx20 : x.length = 20 := by omega
      rw [hx20] at hor ⊢
      obtain ⟨v9, hsl, hb9⟩ := run_slice_to_bs bt wr hor.bs .i64 l.length (by simp)
      rw [List.take_left] at hb9
      clear hlen hlt hx20
      go_wp2_with fail
      refine (copied_any _ (hb.below hbr) (by omega)).mono ?_
      rintro e w5 ⟨v5, rfl, o5, b5⟩
      have b05 := hbr.trans (b5.mono hbr.size)
      go_wp2_with fail
      refine (take_any p k _ o5.bs (by omega)).mono ?_
      rintro e w6 ⟨rfl, b6⟩
      have b06 := b05.trans (b6.mono b05.size)
      go_wp2_with fail
      refine (refTake_any p k _ (hb.below b06) (by omega)).mono ?_
      rintro e w7 ⟨rfl, b7⟩
      have b07 := b06.trans (b7.mono b06.size)
      go_wp2_with fail
      refine (refPut_any n k _ (hb.below b07) (by omega)).mono ?_
      rintro e w8 ⟨v8, rfl, o8, b8⟩
      have b08 := b07.trans (b8.mono b07.size)
      have h3 := (((h3r.bs.below b5).below b6).below b7).below b8
      have h9 := (((hb9.below b5).below b6).below b7).below b8
      go_wp2_with fail
      refine (same_true _ h3 o8.bs hput).mono ?_
      rintro e w10 ⟨rfl, b10⟩
      have b010 := b08.trans (b10.mono b08.size)
      go_wp2_with fail
      refine (same_true _ (h9.below b10) (hb.below b010) (by omega)).mono ?_
      rintro e w11 ⟨rfl, b11⟩
      have b011 := b010.trans (b11.mono b010.size)
      go_wp2_with fail
      refine (works_any _).mono ?_
      rintro e w12 ⟨rfl, b12⟩
      go_wp2
      go_ret
      exact ⟨rfl, b011.trans (b12.mono b011.size)⟩

theorem octetNumbers_any {b : Value} {l : List UInt8} (n : Nat) (p k : Int) (w : World) (hb : Bs w b l) (_hn : n < 18446744073709551616) (_hp : (Lit.int .i64 p).wf = true) (_hk : (Lit.int .i64 k).wf = true) :
    Calls Try.prog 3 #[b, .int .u64 (n : Int), .int .i64 p, .int .i64 k] w (Yes w) := by
  rcases Nat.lt_or_ge 16384 l.length with q1 | q1
  · exact octetNumbers_v0 n p k w hb q1
  · exact octetNumbers_go n p k w hb q1
end Go.Proofs.Ytnfmbggffmloeaa
