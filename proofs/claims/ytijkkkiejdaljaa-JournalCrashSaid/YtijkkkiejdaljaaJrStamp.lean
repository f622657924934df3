/- bytes.Equal, bytes.HasPrefix, bytes.CutPrefix; a journal's stamp, the spot behind a block, what a block tells; conditions: the sizes that each contract names. -/
import Derived.Test.YtijkkkiejdaljaaJrMark
import Derived.Test.YtijkkkiejdaljaaOcTake
namespace Go.Proofs.Ytijkkkiejdaljaa
open Go.RowKit

theorem str_not {l m : Bytes} (h : l ≠ m) : (l == m) = false := by
  rw [beq_eq_false_iff_ne]
  exact h

theorem equal_any {a b : Value} {l m : Bytes} (w : World) (ha : Bs w a l) (hb : Bs w b m) : Calls Try.prog 77 #[a, b] w fun e w' => e = .returned (.bool (decide (l = m))) ∧ w = w' := by
  have k1 := run_string_bs bt (d := 9) Try.underlying9 w ha
  have k2 := run_string_bs bt (d := 9) Try.underlying9 w hb
  obtain ⟨a1, c1, rfl, _⟩ := ha.shape
  obtain ⟨a2, c2, rfl, _⟩ := hb.shape
  clear ha hb
  by_cases he : l = m
  · subst he
    rw [show decide (l = l) = true by simp]
    go_enter Try.func77, Try.ntmps77
    go_wp2
    go_ret
    exact ⟨rfl, rfl⟩
  · have hne := str_not he
    rw [show decide (l = m) = false by simp [he]]
    clear he
    go_enter Try.func77, Try.ntmps77
    go_wp2
    go_ret
    exact ⟨rfl, rfl⟩

/-- b[lo:], within the length; it lies in the same block. -/
theorem run_slice_low {P : Program} {t e : TypeId} (T : ByteTy P t e) {v : Value} {n : Nat} {a : Option Addr} {cap : Nat} (hv : v = .slice a n cap) (k1 : IntKind) (lo : Nat) (h1 : lo ≤ n) :
    (∀ w1, (Instr.slice t v (some (.int k1 (lo : Int))) none none).run P w1 = .ok (sliced a lo n cap 1) w1) := by
  intro w1
  subst hv
  rw [run_slice_l w1 t a n cap T.slice' k1 _ (by omega) (by omega), T.elem, T.run_size]
  simp [Result.andThen]
theorem bs_from {w : World} {a : Option Addr} {n cap : Nat} {l : Bytes} (h : Bs w (.slice a n cap) l) (lo : Nat) (hl : lo ≤ n) : Bs w (sliced a lo n cap 1) (l.drop lo) := by
  obtain ⟨a', cap', e, g1, g2, g3, g4⟩ := h
  simp only [Value.slice.injEq] at e
  obtain ⟨rfl, rfl, rfl⟩ := e
  have := bs_sliced g1 g2 g3 g4 lo l.length hl (Nat.le_refl _)
  rwa [List.take_of_length_le (Nat.le_refl _)] at this

theorem hasPrefix_any {a b : Value} {l m : Bytes} (w : World) (ha : Bs w a l) (hb : Bs w b m) : Calls Try.prog 67 #[a, b] w fun e w' => e = .returned (.bool (decide (l.take m.length = m))) ∧ w = w' := by
  obtain ⟨a1, c1, rfl, ha'⟩ := ha.shape
  obtain ⟨a2, c2, rfl, hb'⟩ := hb.shape
  have hla := ha.len
  have hlb := hb.len
  by_cases hl : m.length ≤ l.length
  · obtain ⟨v, hr, hv⟩ := run_slice_to_bs bt w ha' .i64 m.length hl
    have hq : (decide ((m.length : Int) ≤ (l.length : Int))) = true := by simp; omega
    have H := Lib.hid (And.intro hv hb')
    clear ha hb ha' hb' hv
    generalize l.take m.length = l' at *
    go_enter Try.func67, Try.ntmps67
    go_wp2_with fail
    refine (equal_any w H.out.1 H.out.2).mono ?_
    rintro e w1 ⟨rfl, rfl⟩
    go_wp2
    go_ret
    exact ⟨rfl, rfl⟩
  · have hq : (l.length : Int) < (m.length : Int) := by omega
    have hne : ¬ l.take m.length = m := fun e => by have := congrArg List.length e; rw [List.length_take] at this; omega
    rw [show decide (l.take m.length = m) = false by simp [hne]]
    clear ha hb ha' hb' hl hne
    go_enter Try.func67, Try.ntmps67
    go_wp2
    go_ret
    exact ⟨rfl, rfl⟩

theorem cutPrefix_yes {a b : Value} {l m : Bytes} {a1 : Option Addr} {c1 : Nat} (w : World) (hv : a = .slice a1 l.length c1) (ha : Bs w a l) (hb : Bs w b m) (h : l.take m.length = m) :
    Calls Try.prog 56 #[a, b] w fun e w' => e = .returned (.tuple #[sliced a1 m.length l.length c1 1, .bool true]) ∧ w = w' := by
  subst hv
  have hl : m.length ≤ l.length := by have := congrArg List.length h; rw [List.length_take] at this; omega
  have hr := run_slice_low bt (rfl : (Value.slice a1 l.length c1) = .slice a1 l.length c1) .i64 m.length hl
  have hlb := hb.len
  obtain ⟨a2, c2, rfl, hb'⟩ := hb.shape
  have hd : decide (l.take m.length = m) = true := by simp [h]
  have H := Lib.hid (And.intro ha (And.intro hb' hd))
  clear ha hb hb' h hd
  generalize sliced a1 m.length l.length c1 1 = v at *
  go_enter Try.func56, Try.ntmps56
  go_wp2_with fail
  refine (hasPrefix_any w H.out.1 H.out.2.1).mono ?_
  rintro e w1 ⟨he, rfl⟩
  rw [H.out.2.2] at he
  subst he
  go_wp2
  go_ret2
  exact ⟨rfl, rfl⟩
theorem cutPrefix_no {a b : Value} {l m : Bytes} (w : World) (ha : Bs w a l) (hb : Bs w b m) (h : ¬ l.take m.length = m) :
    Calls Try.prog 56 #[a, b] w fun e w' => e = .returned (.tuple #[a, .bool false]) ∧ w = w' := by
  have hd : decide (l.take m.length = m) = false := by simp [h]
  have H := Lib.hid (And.intro ha (And.intro hb hd))
  obtain ⟨a1, c1, rfl, _⟩ := ha.shape
  obtain ⟨a2, c2, rfl, _⟩ := hb.shape
  clear ha hb h hd
  go_enter Try.func56, Try.ntmps56
  go_wp2_with fail
  refine (hasPrefix_any w H.out.1 H.out.2.1).mono ?_
  rintro e w1 ⟨he, rfl⟩
  rw [H.out.2.2] at he
  subst he
  go_wp2
  go_ret2
  exact ⟨rfl, rfl⟩

section
variable {w w' : World} {jb b : Nat} {J : Jn}

set_option maxHeartbeats 400000 in
theorem stamp_any (h : JAt w jb b J) (hJ : J.Fit) (t : Spot) : Calls Try.prog 51 #[ptr jb, spotV t] w (Gives w (stampL J.at_ J.seq t.2)) := by
  have hb := h.alloc (.cells #[.int .i64 (t.1 : Int), .int .u64 (t.2 : Int)] 65)
  have bl := (Below.refl w.heap.size w).alloc (Nat.le_refl _) (.cells #[.int .i64 (t.1 : Int), .int .u64 (t.2 : Int)] 65)
  have cb := Cel.new w #[.int .i64 (t.1 : Int), .int .u64 (t.2 : Int)] 65
  obtain ⟨_, _, _, c3, _, _, _, _, _⟩ := hb.cells
  have hw64 : IntKind.u64.wrap (J.at_ : Int) = J.at_ := IntWalk.u64_in _ (by have := hJ.atl; have := hJ.few; omega)
  have H := Lib.hid (And.intro hb (And.intro bl cb))
  clear h hJ hb bl cb
  go_enter Try.func51, Try.ntmps51
  go_wp2_with fail
  refine (put_any J.at_ 2 _ (Bs.nil _) (by simp)).mono ?_
  rintro e w1 ⟨v1, rfl, o1, b1⟩
  have h1 := H.out.1.below b1
  obtain ⟨_, _, _, _, c4, _, _, _, _⟩ := h1.cells
  have H1 := Lib.hid (And.intro h1 (And.intro b1 o1))
  obtain ⟨a1, q1, rfl, _⟩ := o1.bs.shape
  clear c3 h1 b1 o1 hw64
  go_wp2_with fail
  refine (put_any J.seq 8 _ H1.out.2.2.bs (by simp [putL, mayB, beL_length])).mono ?_
  rintro e w2 ⟨v2, rfl, o2, b2⟩
  have k2 := (H.out.2.2.kept (H1.out.2.1.block _ (by simp))).kept (b2.block _ (by have := H1.out.2.1.size; simp at this; omega))
  have c7 : w2.cell? ⟨w.heap.size, 1, none⟩ = some (.int .u64 (t.2 : Int)) := by rw [k2.cell]; rfl
  have H2 := Lib.hid (And.intro b2 o2)
  obtain ⟨a2, q2, rfl, _⟩ := o2.bs.shape
  clear c4 k2 b2 o2
  go_wp2_with fail
  refine (put_any t.2 4 _ H2.out.2.bs (by simp [putL, mayB, beL_length])).mono ?_
  rintro e w3 ⟨v3, rfl, o3, b3⟩
  go_wp2
  go_ret
  have s1 := H.out.2.1.size
  have s2 := H1.out.2.1.size
  have s3 := H2.out.1.size
  refine ⟨v3, rfl, ?_, H.out.2.1.trans ((H1.out.2.1.mono s1).trans ((H2.out.1.mono (Nat.le_trans s1 s2)).trans (b3.mono (Nat.le_trans s1 (Nat.le_trans s2 s3)))))⟩
  exact o3.mono (Nat.le_trans s1 (Nat.le_trans s2 s3))

set_option maxHeartbeats 400000 in
/-- A result that lies in a cell. -/
theorem results_cell {P : Program} {fn : Func} {t : Tmp} {ty : TypeId} (h : fn.results = #[.cell t ty]) {tmps : Array Value} {w : World} {a : Addr} {v : Value} (ha : tmps.getD t undef = .pointer (some a))
    (hl : (loadVar ty a).run P w = .ok v w) : (results fn tmps).run P w = .ok v w := by
  have ha' : tmps[t]?.getD undef = .pointer (some a) := by rw [← Array.getD_eq_getD_getElem?]; exact ha
  simp [results, h, ha', asAddr, hl]
theorem load_spot {w : World} {g : Nat} {t : Spot} (h : Cel w g (spotL t) 65) : (loadVar 65 ⟨g, 0, none⟩).run Try.prog w = .ok (spotV t) w := by
  have c0 : w.cell? ⟨g, 0, none⟩ = some (.int .i64 (t.1 : Int)) := by rw [h.cell]; rfl
  have c1 : w.cell? ⟨g, 1, none⟩ = some (.int .u64 (t.2 : Int)) := by rw [h.cell]; rfl
  go_simp

theorem takeN_sum {l : Bytes} (hl : l.length = 512) : takeN l 508 4 = sumOf l := by
  have hm : takeMay l 508 4 ∧ (4 : Int) ≤ l.length - 508 := ⟨⟨rfl, by decide, by omega⟩, by omega⟩
  unfold takeN
  rw [if_pos hm]
  rfl

set_option maxHeartbeats 400000 in
theorem behind_any (t : Spot) {v : Value} {l : Bytes} (w : World) (hv : Bs w v l) (hl : l.length = 512) (ht : t.1 ≤ 4096) :
    Calls Try.prog 48 #[spotV t, v] w fun e w' => e = .returned (spotV (behindS t l)) ∧ Below w.heap.size w w' := by
  obtain ⟨a, c, rfl, hv'⟩ := hv.shape
  have hN := takeN_sum hl
  have c1 := Cel.new w #[.int .i64 (t.1 : Int), .int .u64 (t.2 : Int)] 65
  have b1 := (Below.refl w.heap.size w).alloc (Nat.le_refl _) (.cells #[.int .i64 (t.1 : Int), .int .u64 (t.2 : Int)] 65)
  have c1' := c1.alloc (.cells #[.int .i64 0, .int .u64 0] 65)
  have c2 := Cel.new (w.alloc (.cells #[.int .i64 (t.1 : Int), .int .u64 (t.2 : Int)] 65)) #[.int .i64 0, .int .u64 0] 65
  have b2 := b1.alloc (by simp) (.cells #[.int .i64 0, .int .u64 0] 65)
  have hvb := hv'.below b2
  have hs0 : w.heap.size + 1 = (w.alloc (.cells #[.int .i64 (t.1 : Int), .int .u64 (t.2 : Int)] 65)).heap.size := by simp
  rw [← hs0] at c2
  have H := Lib.hid (And.intro (And.intro hvb hl) (And.intro hN (And.intro c1' (And.intro c2 b2))))
  rw [hl]
  clear hv hv' hvb hN c1 b1 c1' c2 b2 hs0 hl
  go_enter Try.func48, Try.ntmps48
  go_wp2_with fail
  have hb := H.out.1.1
  rw [H.out.1.2] at hb
  refine (take_any 508 4 _ hb (by rw [H.out.1.2]; decide)).mono ?_
  rintro e w1 ⟨he, b3⟩
  rw [H.out.2.1] at he
  subst he
  have k1 := H.out.2.2.1.kept (b3.block _ (by simp; omega))
  have k2 := H.out.2.2.2.1.kept (b3.block _ (by simp))
  have d0 : w1.cell? ⟨w.heap.size, 0, none⟩ = some (.int .i64 (t.1 : Int)) := by rw [k1.cell]; rfl
  have d1 : w1.cell? ⟨w.heap.size + 1, 0, none⟩ = some (.int .i64 0) := by rw [k2.cell]; rfl
  have d2 : w1.cell? ⟨w.heap.size + 1, 1, none⟩ = some (.int .u64 0) := by rw [k2.cell]; rfl
  have f1 := k2.frozen 0
  have f2 := k2.frozen 1
  have hb' : Below w.heap.size w w1 := H.out.2.2.2.2.trans (b3.mono H.out.2.2.2.2.size)
  have HH := Lib.hid (And.intro hb' k2)
  clear hb b3 k1 k2 hb'
  go_wp2
  have k3 : Cel ((w1.setCell { block := w.heap.size + 1, off := 0 } (Value.int IntKind.i64 (↑t.fst + 1))).setCell { block := w.heap.size + 1, off := 1 } (Value.int IntKind.u64 ↑(sumOf l))) (w.heap.size + 1) (spotL (behindS t l)) 65 := (HH.out.2.set 0 (.int .i64 ((t.1 : Int) + 1))).set 1 (.int .u64 (sumOf l : Int))
  refine bodyPost_ret (results_cell rfl rfl (load_spot k3)) rfl ⟨rfl, ?_⟩
  exact (HH.out.1.setCell (p := ⟨w.heap.size + 1, 0, none⟩) (by simp) _).setCell (p := ⟨w.heap.size + 1, 1, none⟩) (by simp) _

/-- What tell answers. -/
def Tells (w : World) (r : UInt8 × Bytes) (e : Ending) (w' : World) : Prop :=
  ∃ v, e = .returned (.tuple #[.int .u8 (r.1.toNat : Int), v]) ∧ Bs w' v r.2 ∧ (∀ q, v.ownBlock = some q → w.heap.size ≤ q) ∧ Below w.heap.size w w'

theorem sliced_own (a : Option Addr) (lo hi cap sz n c : Nat) : (sliced a lo hi cap sz).ownBlock = (Value.slice a n c).ownBlock := by
  unfold sliced
  cases a with
  | none => simp [Value.ownBlock]
  | some a =>
    split
    · rfl
    · simp only [Option.map_some, Value.ownBlock, Addr.add]
      split <;> rfl

theorem tell_yes {a s u : Nat} {l : Bytes} (h1 : (openV l).2.2 = 0) (h2 : (openV l).2.1.take (stampL a s u).length = stampL a s u) : tellL a s u l = ((openV l).1, (openV l).2.1.drop (stampL a s u).length) := by
  rw [stampL_length] at *
  unfold tellL
  rw [if_pos ⟨h1, h2⟩]
theorem tell_no {a s u : Nat} {l : Bytes} (h : ¬ ((openV l).2.2 = 0 ∧ (openV l).2.1.take (stampL a s u).length = stampL a s u)) : tellL a s u l = (0, []) := by
  rw [stampL_length] at h
  unfold tellL
  rw [if_neg h]
theorem err_short {a s u : Nat} {l : Bytes} (h : (openV l).2.2 ≠ 0) : ¬ (openV l).2.1.take (stampL a s u).length = stampL a s u := by
  rw [(openV_zero h).2.1]
  intro e
  have := congrArg List.length e
  rw [stampL_length] at this
  cases this

set_option maxHeartbeats 400000 in
theorem tell_any (h : JAt w jb b J) (hJ : J.Fit) (t : Spot) {v : Value} {l : Bytes} (hv : Bs w v l) :
    Calls Try.prog 47 #[ptr jb, spotV t, v] w (Tells w (tellL J.at_ J.seq t.2 l)) := by
  have bl := (Below.refl w.heap.size w).alloc (Nat.le_refl _) (.cells #[.int .i64 (t.1 : Int), .int .u64 (t.2 : Int)] 65)
  have cb := Cel.new w #[.int .i64 (t.1 : Int), .int .u64 (t.2 : Int)] 65
  have hb := h.below bl
  have hv' := hv.below bl
  obtain ⟨a1, q1, rfl, _⟩ := hv.shape
  have H := Lib.hid (And.intro hb (And.intro bl (And.intro cb (And.intro hv' hJ))))
  clear h hJ hb bl cb hv hv'
  unfold Tells
  by_cases h1 : (openV l).2.2 = 0
  · by_cases h2 : (openV l).2.1.take (stampL J.at_ J.seq t.2).length = stampL J.at_ J.seq t.2
    · rw [tell_yes h1 h2]
      have HE := Lib.hid (And.intro h1 h2)
      clear h1 h2
      go_enter Try.func47, Try.ntmps47
      go_wp2_with fail
      refine (blkOpen_any _ H.out.2.2.2.1).mono ?_
      rintro e w1 ⟨v1, he, o1, b1⟩
      rw [HE.out.1] at he
      subst he
      have j1 := H.out.1.below b1
      have s0 := H.out.2.1.size
      have k1 := H.out.2.2.1.kept (b1.block _ (by simp))
      have c0 : w1.cell? ⟨w.heap.size, 0, none⟩ = some (.int .i64 (t.1 : Int)) := by rw [k1.cell]; rfl
      have c1 : w1.cell? ⟨w.heap.size, 1, none⟩ = some (.int .u64 (t.2 : Int)) := by rw [k1.cell]; rfl
      obtain ⟨a2, q2, rfl, _⟩ := o1.bs.shape
      have H1 := Lib.hid (And.intro j1 (And.intro o1 (H.out.2.1.trans (b1.mono s0))))
      clear j1 k1 b1 o1
      go_wp2_with fail
      refine (stamp_any H1.out.1 H.out.2.2.2.2 t).mono ?_
      rintro e w2 ⟨v2, rfl, o2, b2⟩
      have o1' := H1.out.2.1.bs.below b2
      have ow1 := H1.out.2.1
      have H2 := Lib.hid (And.intro o2.bs (And.intro o1' (And.intro ow1 (H1.out.2.2.trans (b2.mono H1.out.2.2.size)))))
      clear c0 c1 o2 b2 o1' ow1
      go_wp2_with fail
      refine (cutPrefix_yes _ rfl H2.out.2.1 H2.out.1 HE.out.2).mono ?_
      rintro e w3 ⟨rfl, rfl⟩
      have hsl := bs_from H2.out.2.1 (stampL J.at_ J.seq t.2).length (by rw [← HE.out.2, List.length_take]; exact Nat.min_le_right _ _)
      have hso := sliced_own a2 (stampL J.at_ J.seq t.2).length (openV l).2.1.length q2 1 (openV l).2.1.length q2
      have H3 := Lib.hid (And.intro hsl hso)
      clear hsl hso
      generalize sliced a2 (stampL J.at_ J.seq t.2).length (openV l).2.1.length q2 1 = v3 at *
      go_wp2
      go_ret2
      refine ⟨v3, rfl, H3.out.1, fun q hq => ?_, H2.out.2.2.2⟩
      rw [H3.out.2] at hq
      have := (H2.out.2.2.1.own hq).1
      omega
    · rw [tell_no (fun e => h2 e.2)]
      have HE := Lib.hid (And.intro h1 h2)
      clear h1 h2
      go_enter Try.func47, Try.ntmps47
      go_wp2_with fail
      refine (blkOpen_any _ H.out.2.2.2.1).mono ?_
      rintro e w1 ⟨v1, he, o1, b1⟩
      rw [HE.out.1] at he
      subst he
      have j1 := H.out.1.below b1
      have s0 := H.out.2.1.size
      have k1 := H.out.2.2.1.kept (b1.block _ (by simp))
      have c0 : w1.cell? ⟨w.heap.size, 0, none⟩ = some (.int .i64 (t.1 : Int)) := by rw [k1.cell]; rfl
      have c1 : w1.cell? ⟨w.heap.size, 1, none⟩ = some (.int .u64 (t.2 : Int)) := by rw [k1.cell]; rfl
      obtain ⟨a2, q2, rfl, _⟩ := o1.bs.shape
      have H1 := Lib.hid (And.intro j1 (And.intro o1 (H.out.2.1.trans (b1.mono s0))))
      clear j1 k1 b1 o1
      go_wp2_with fail
      refine (stamp_any H1.out.1 H.out.2.2.2.2 t).mono ?_
      rintro e w2 ⟨v2, rfl, o2, b2⟩
      have o1' := H1.out.2.1.bs.below b2
      have H2 := Lib.hid (And.intro o2.bs (And.intro o1' (H1.out.2.2.trans (b2.mono H1.out.2.2.size))))
      clear c0 c1 o2 b2 o1'
      go_wp2_with fail
      refine (cutPrefix_no _ H2.out.2.1 H2.out.1 HE.out.2).mono ?_
      rintro e w3 ⟨rfl, rfl⟩
      go_wp2
      go_ret2
      exact ⟨.slice none 0 0, rfl, Bs.nil _, (fun q hq => by cases hq), H2.out.2.2⟩
  · rw [tell_no (fun e => h1 e.1)]
    have h2 := err_short (a := J.at_) (s := J.seq) (u := t.2) h1
    obtain ⟨e1, e2⟩ : ∃ c, (openV l).2.2 = c := ⟨_, rfl⟩
    rw [e2] at h1
    have HE := Lib.hid (And.intro e2 h2)
    clear e2 h2
    go_enter Try.func47, Try.ntmps47
    go_wp2_with fail
    refine (blkOpen_any _ H.out.2.2.2.1).mono ?_
    rintro e w1 ⟨v1, he, o1, b1⟩
    rw [HE.out.1] at he
    subst he
    have j1 := H.out.1.below b1
    have s0 := H.out.2.1.size
    have k1 := H.out.2.2.1.kept (b1.block _ (by simp))
    have c0 : w1.cell? ⟨w.heap.size, 0, none⟩ = some (.int .i64 (t.1 : Int)) := by rw [k1.cell]; rfl
    have c1 : w1.cell? ⟨w.heap.size, 1, none⟩ = some (.int .u64 (t.2 : Int)) := by rw [k1.cell]; rfl
    obtain ⟨a2, q2, rfl, _⟩ := o1.bs.shape
    have H1 := Lib.hid (And.intro j1 (And.intro o1 (H.out.2.1.trans (b1.mono s0))))
    clear j1 k1 b1 o1
    go_wp2_with fail
    refine (stamp_any H1.out.1 H.out.2.2.2.2 t).mono ?_
    rintro e w2 ⟨v2, rfl, o2, b2⟩
    have o1' := H1.out.2.1.bs.below b2
    have H2 := Lib.hid (And.intro o2.bs (And.intro o1' (H1.out.2.2.trans (b2.mono H1.out.2.2.size))))
    clear c0 c1 o2 b2 o1'
    go_wp2_with fail
    refine (cutPrefix_no _ H2.out.2.1 H2.out.1 HE.out.2).mono ?_
    rintro e w3 ⟨rfl, rfl⟩
    go_wp2
    go_ret2
    exact ⟨.slice none 0 0, rfl, Bs.nil _, (fun q hq => by cases hq), H2.out.2.2⟩
end
end Go.Proofs.Ytijkkkiejdaljaa
