/- Where a key stands among a node's entries; which child it belongs to; which children a span meets; condition: the entries' keys rise. · Contracts of octet.Put and of what it calls: each answers as the chapter says and writes nothing that was there; conditions: the lengths that each contract names. · The contract of octet.PutBytes: it answers as the chapter says and writes nothing that was there; conditions: the lengths that it names. · A node's bytes: what stands of it in its block; condition: no key or value is longer than a byte string may be. -/
import Derived.Test.YtgekeemhbnhelaaGreatM03
import Derived.Deep.QuietTactic
import Derived.BigQuiet
import Derived.Test.YtgekeemhbnhelaaGreatM01
import Derived.Test.YtgekeemhbnhelaaGreatM02
namespace Go.Proofs.YtgekeemhbnhelaaGreat
open Go.RowKit

set_option maxHeartbeats 400000 in
theorem bsearch_any {ev kv : Value} {S : Nat → Prop} {es : List En} {key : Bytes} (w : World) (h : Rd kdEn w S ev es) (hk : Bs w kv key) (hr : RiseE es) (hn : es.length ≤ 4294967296) :
    Calls Tryz.prog 74 #[ev, kv, .func (.func 75) #[] #[]] w
      fun e w' => e = .returned (.tuple #[.int .i64 (fnd es key : Nat), .bool (fndIs es key)]) ∧ Below w.heap.size w w' := by
  obtain ⟨ea, ec, rfl, _⟩ := h.shape
  have HH := Lib.hid (And.intro h (And.intro hk hr))
  clear h hk hr
  go_enter Tryz.func74, Tryz.ntmps74
  go_wp2
  go_loopw [9, 10] (fun i j wr => ∃ p q : Nat, p ≤ q ∧ q ≤ es.length ∧ i = .int .i64 p ∧ j = .int .i64 q ∧ (∀ (r : Nat) (a : En), r < p → es[r]? = some a → cmp a.key key < 0) ∧ (∀ (r : Nat) (a : En), q ≤ r → es[r]? = some a → 0 ≤ cmp a.key key) ∧ Below w.heap.size w wr)
    (fun i j _ => (intOf j).toNat - (intOf i).toNat)
  case atStart => exact ⟨0, es.length, Nat.zero_le _, Nat.le_refl _, rfl, rfl, fun r a h => absurd h (Nat.not_lt_zero _), fun r a h1 h2 => absurd (List.getElem?_eq_some_iff.1 h2).1 (by omega), Below.refl _ _⟩
  case round =>
    obtain ⟨p, q, hpq, hq, rfl, rfl, hlo, hhi, hbw⟩ := hrel
    by_cases hlt : p < q
    · have hil : (p : Int) < (q : Int) := by omega
      obtain ⟨a, ha⟩ : ∃ a, es[(p + q) / 2]? = some a := ⟨_, List.getElem?_eq_getElem (by omega)⟩
      have hrd := HH.out.1.step (Step.of_below hbw S)
      obtain ⟨g, o, cap, ka, kc, va, vc, e0, hg, c0, c1, c2, hka, hva⟩ := hrd.ent ha
      simp only [Value.slice.injEq] at e0
      obtain ⟨rfl, _, rfl⟩ := e0
      have F := find1_any (k := .slice ka a.key.length kc) (v := .slice va a.val.length vc) (p := (a.page : Nat)) wr hka.1 (HH.out.2.1.below hbw)
      have hm1 : ((p + q) / 2 : Nat) < es.length := by omega
      have hme : (((p + q) / 2 : Nat) : Int) = ((p : Int) + (q : Int)) / 2 := by omega
      have H1 := Lib.hid (And.intro hlo (And.intro hhi (And.intro hbw (And.intro ha hme))))
      clear hrd hka hva hlo hhi hbw ha hme
      by_cases hc : cmp a.key key < 0
      · generalize hx : cmp a.key key = x at *
        have HC := Lib.hid hx
        clear hx
        go_wp2_with fail
        refine F.mono ?_
        rintro e w1 ⟨rfl, hb1⟩
        clear F
        have H2 := Lib.hid hb1
        have H3 := Lib.hid hc
        clear hb1
        go_wp2
        go_roundw
        case rel =>
          obtain ⟨hlo, hhi, hbw, ha, hme⟩ := H1.out
          refine ⟨(p + q) / 2 + 1, q, by omega, hq, by rw [← hme]; go_num, rfl, fun r b hr hb => ?_, hhi, hbw.trans (H2.out.mono hbw.size)⟩
          have hc := H3.out
          rw [← HC.out] at hc
          by_cases e : r = (p + q) / 2
          · subst e
            rw [ha] at hb
            cases hb
            exact hc
          · exact cmp_ltt (HH.out.2.2.lt hb ha (by omega)) hc
        case measure => simp [intOf]; omega
      · generalize hx : cmp a.key key = x at *
        have HC := Lib.hid hx
        clear hx
        have hx0 : (0 : Int) ≤ x := by omega
        have H3 := Lib.hid hx0
        clear hc
        go_wp2_with fail
        refine F.mono ?_
        rintro e w1 ⟨rfl, hb1⟩
        clear F
        have H2 := Lib.hid hb1
        clear hb1
        go_wp2
        go_roundw
        case rel =>
          obtain ⟨hlo, hhi, hbw, ha, hme⟩ := H1.out
          refine ⟨p, (p + q) / 2, by omega, by omega, rfl, by rw [← hme], hlo, fun r b hr hb => ?_, hbw.trans (H2.out.mono hbw.size)⟩
          have hc := H3.out
          rw [← HC.out] at hc
          by_cases e : r = (p + q) / 2
          · subst e
            rw [ha] at hb
            cases hb
            exact hc
          · have := HH.out.2.2.lt ha hb (by omega)
            by_cases hn : cmp b.key key < 0
            · have := cmp_ltt this hn
              omega
            · omega
        case measure => simp [intOf]; omega
    · obtain rfl : p = q := by omega
      have hf := fnd_of hlo (fun e he => hhi p e (Nat.le_refl _) he) hq
      rcases ha : es[p]? with _ | a
      · have hI : fndIs es key = false := by unfold fndIs; rw [hf, ha]
        have HF := Lib.hid (And.intro hf hI)
        clear hf hI
        have h1 := List.getElem?_eq_none_iff.1 ha
        have hd : ¬ ((p : Int) < (es.length : Int)) := by omega
        have HB := Lib.hid hbw
        clear hlo hhi hbw ha h1
        go_wp2
        go_ret2
        exact ⟨by rw [HF.out.1, HF.out.2]; rfl, HB.out⟩
      · have hI : fndIs es key = decide (cmp a.key key = 0) := by unfold fndIs; rw [hf, ha]
        have h1 := (List.getElem?_eq_some_iff.1 ha).1
        have hd : (p : Int) < (es.length : Int) := by omega
        have hrd := HH.out.1.step (Step.of_below hbw S)
        obtain ⟨g, o, cap, ka, kc, va, vc, e0, hg, c0, c1, c2, hka, hva⟩ := hrd.ent ha
        simp only [Value.slice.injEq] at e0
        obtain ⟨rfl, _, rfl⟩ := e0
        have F := find1_any (k := .slice ka a.key.length kc) (v := .slice va a.val.length vc) (p := (a.page : Nat)) wr hka.1 (HH.out.2.1.below hbw)
        have HB := Lib.hid hbw
        generalize cmp a.key key = x at *
        have HF := Lib.hid (And.intro hf hI)
        clear hf hI hrd hka hva hlo hhi hbw ha
        go_wp2_with fail
        refine F.mono ?_
        rintro e w1 ⟨rfl, hb1⟩
        clear F
        have H2 := Lib.hid hb1
        clear hb1
        go_wp2
        go_ret2
        refine ⟨?_, HB.out.trans (H2.out.mono HB.out.size)⟩
        rw [HF.out.1, HF.out.2]
        rfl

theorem find_any {p l : Int} {ev tv kv : Value} {S : Nat → Prop} {es : List En} {key : Bytes} (w : World) (h : Rd kdEn w S ev es) (hk : Bs w kv key) (hr : RiseE es) (hn : es.length ≤ 4294967296) :
    Calls Tryz.prog 47 #[ndv p l ev tv, kv] w fun e w' => e = .returned (.tuple #[.int .i64 (fnd es key : Nat), .bool (fndIs es key)]) ∧ Below w.heap.size w w' := by
  have hb : Below w.heap.size w (w.alloc (.cells #[.int .i64 p, .int .i64 l, ev, tv] 85)) := (Below.refl _ _).alloc (Nat.le_refl _) _
  have B := bsearch_any _ (h.step (Step.of_below hb S)) (hk.below hb) hr hn
  have HB := Lib.hid hb
  clear hb h hk
  go_enter Tryz.func47, Tryz.ntmps47
  go_wp2_with fail
  refine B.mono ?_
  rintro e w1 ⟨rfl, b1⟩
  clear B
  have H1 := Lib.hid b1
  clear b1
  go_wp2
  go_ret2
  exact ⟨rfl, HB.out.trans (H1.out.mono HB.out.size)⟩

theorem way_any {p l : Int} {ev tv kv : Value} {S : Nat → Prop} {es : List En} {key : Bytes} (w : World) (h : Rd kdEn w S ev es) (hk : Bs w kv key) (hr : RiseE es) (hn : es.length ≤ 4294967296) :
    Calls Tryz.prog 46 #[ndv p l ev tv, kv] w fun e w' => e = .returned (.int .i64 (way es key : Nat)) ∧ Below w.heap.size w w' := by
  have hb : Below w.heap.size w (w.alloc (.cells #[.int .i64 p, .int .i64 l, ev, tv] 85)) := (Below.refl _ _).alloc (Nat.le_refl _) _
  have B := find_any (p := p) (l := l) (tv := tv) _ (h.step (Step.of_below hb S)) (hk.below hb) hr hn
  have HB := Lib.hid hb
  have hle := fnd_le es key
  clear hb h hk
  unfold way
  generalize fnd es key = i at *
  generalize fndIs es key = c at *
  have hi : (i : Int) ≤ 4294967296 := by omega
  rcases c with _ | _
  · simp only [Bool.false_eq_true, if_false]
    rcases i with _ | i
    · go_enter Tryz.func46, Tryz.ntmps46
      go_wp2_with fail
      refine B.mono ?_
      rintro e w1 ⟨rfl, b1⟩
      clear B
      have H1 := Lib.hid b1
      clear b1
      go_wp2
      go_ret
      exact ⟨rfl, HB.out.trans (H1.out.mono HB.out.size)⟩
    · have e1 : ((i + 1 : Nat) : Int) - 1 = (i : Int) := by omega
      have e2 : max (i : Int) 0 = (i : Int) := by omega
      rw [Nat.add_sub_cancel]
      go_enter Tryz.func46, Tryz.ntmps46
      go_wp2_with fail
      refine B.mono ?_
      rintro e w1 ⟨rfl, b1⟩
      clear B
      have H1 := Lib.hid b1
      clear b1
      go_wp2
      go_ret
      exact ⟨rfl, HB.out.trans (H1.out.mono HB.out.size)⟩
  · simp only [if_true]
    have e2 : max (i : Int) 0 = (i : Int) := by omega
    go_enter Tryz.func46, Tryz.ntmps46
    go_wp2_with fail
    refine B.mono ?_
    rintro e w1 ⟨rfl, b1⟩
    clear B
    have H1 := Lib.hid b1
    clear b1
    go_wp2
    go_ret
    exact ⟨rfl, HB.out.trans (H1.out.mono HB.out.size)⟩

/-- May a child have keys of a span? -/
def meetsB (es : List En) (to : Bytes) (i : Nat) (f t : Bytes) : Bool := match es[i]? with
  | some e => aheadB e.key t && (decide ((endK es to i).length = 0) || decide (0 < cmp (endK es to i) f))
  | none => false
set_option maxHeartbeats 1000000 in
theorem meets_any {p l : Int} {ev tv fv sv : Value} {S : Nat → Prop} {es : List En} {to f t : Bytes} (i : Nat) (w : World) (h : Rd kdEn w S ev es) (ht : Bsf w S tv to) (hf : Bs w fv f) (hs : Bs w sv t) (hi : i < es.length) :
    Calls Tryz.prog 103 #[ndv p l ev tv, .int .i64 (i : Int), spv fv sv] w fun e w' => e = .returned (.bool (meetsB es to i f t)) ∧ Below w.heap.size w w' := by
  obtain ⟨a, ha⟩ : ∃ a, es[i]? = some a := ⟨_, List.getElem?_eq_getElem hi⟩
  generalize hR : meetsB es to i f t = R
  unfold meetsB at hR
  rw [ha] at hR
  have HR := Lib.hid hR
  clear hR
  have hle := h.len
  have hil : (i : Int) < (es.length : Int) := by omega
  have hi0 : (0 : Int) ≤ (i : Int) := by omega
  obtain ⟨ea, ec, rfl, _⟩ := h.shape
  have hb : Below w.heap.size w ((w.alloc (.cells #[.int .i64 p, .int .i64 l, .slice ea es.length ec, tv] 85)).alloc (.cells #[fv, sv] 101)) :=
    ((Below.refl _ _).alloc (Nat.le_refl _) _).alloc (by simp) _
  have N := end_any (p := p) (l := l) i _ (h.step (Step.of_below hb S)) (ht.step (Step.of_below hb S)) hi
  have z : ((w.alloc (.cells #[.int .i64 p, .int .i64 l, .slice ea es.length ec, tv] 85)).alloc (.cells #[fv, sv] 101)).heap.size = w.heap.size + 2 := by simp
  have d0 : ((w.alloc (.cells #[.int .i64 p, .int .i64 l, .slice ea es.length ec, tv] 85)).alloc (.cells #[fv, sv] 101)).cell? ⟨w.heap.size, 2, none⟩ = some (.slice ea es.length ec) := by
    rw [World.cell?_alloc_lt (h := by simp)]
    simp
  have d1 : ((w.alloc (.cells #[.int .i64 p, .int .i64 l, .slice ea es.length ec, tv] 85)).alloc (.cells #[fv, sv] 101)).cell? ⟨w.heap.size + 1, 0, none⟩ = some fv := by
    rw [World.cell?_alloc_at (hn := by simp)]
    rfl
  have d2 : ((w.alloc (.cells #[.int .i64 p, .int .i64 l, .slice ea es.length ec, tv] 85)).alloc (.cells #[fv, sv] 101)).cell? ⟨w.heap.size + 1, 1, none⟩ = some sv := by
    rw [World.cell?_alloc_at (hn := by simp)]
    rfl
  have HH := Lib.hid (And.intro h (And.intro hb (And.intro z (And.intro d0 (And.intro d1 d2)))))
  have H2 := Lib.hid (And.intro hf (And.intro hs ha))
  clear h ht hf hs hb z d0 d1 d2 ha
  go_enter Tryz.func103, Tryz.ntmps103
  go_wp2_with fail
  refine N.mono ?_
  rintro e w1 ⟨xv, rfl, hx, hb1⟩
  clear N
  obtain ⟨h, hb, z, d0, d1, d2⟩ := HH.out
  obtain ⟨hf, hs, ha⟩ := H2.out
  have hbw := hb.trans (hb1.mono (by omega))
  have c0 := (hb1.cell (p := ⟨w.heap.size, 2, none⟩) (by show w.heap.size < _; omega)).trans d0
  have c1 := (hb1.cell (p := ⟨w.heap.size + 1, 0, none⟩) (by show w.heap.size + 1 < _; omega)).trans d1
  have c2 := (hb1.cell (p := ⟨w.heap.size + 1, 1, none⟩) (by show w.heap.size + 1 < _; omega)).trans d2
  have hrd := h.step (Step.of_below hbw S)
  obtain ⟨g, o, cap, ka, kc, va, vc, e0, hg, k0, _, _, hka, _⟩ := hrd.ent ha
  simp only [Value.slice.injEq] at e0
  obtain ⟨rfl, _, rfl⟩ := e0
  obtain ⟨xa, xc, rfl, _⟩ := hx.1.shape
  have A := fun n => ahead_any (w1.drewN n) (hka.1.drewN n) ((hs.below hbw).drewN n)
  have O := fun n => order_cmp (w1.drewN n) (hx.1.drewN n) ((hf.below hbw).drewN n)
  have HB := Lib.hid hbw
  have hlx := hx.1.len
  clear h hb z d0 d1 d2 hf hs ha hb1 hbw hrd hka hx HH H2
  generalize endK es to i = x at *
  have h3 := cmp3 x f
  generalize cmp x f = y at *
  generalize aheadB a.key t = b at *
  have HA := Lib.hid A
  have HO := Lib.hid O
  clear A O
  rcases b with _ | _
  · clear HO h3
    go_wp2_with fail
    go_quiet ((go_at_call 72; exact quiet_left (HA.out _)))
    go_wp2
    go_ret
    exact ⟨by rw [← HR.out]; rfl, below_drewN HB.out _⟩
  · by_cases hx0 : x.length = 0
    · have hi : ((x.length : Int) == 0) = true := by rw [hx0]; rfl
      have HX := Lib.hid hx0
      clear HO hx0 h3
      go_wp2_with fail
      go_quiet ((go_at_call 72; exact quiet_left (HA.out _)))
      go_wp2
      go_ret
      exact ⟨by rw [← HR.out, HX.out]; rfl, below_drewN HB.out _⟩
    · have hi : ((x.length : Int) == 0) = false := by rw [beq_eq_false_iff_ne]; omega
      have HX := Lib.hid hx0
      clear hx0 h3
      go_wp2_with fail
      go_quiet (first | (go_at_call 72; exact quiet_left (HA.out _)) | (go_at_call 56; exact quiet_left (HO.out _)))
      go_wp2
      go_ret
      exact ⟨by rw [← HR.out, decide_eq_false HX.out]; rfl, below_drewN HB.out _⟩
end Go.Proofs.YtgekeemhbnhelaaGreat
namespace Go.Proofs.YtgekeemhbnhelaaGreat
open Go.RowKit

/-! ### the sizes -/
def sizeE (k : Int) (c : Nat) : MapEntry := { key := .int .i64 k, val := .bool true, born := c }

theorem run_check_int (w : World) (em : Bool) (k : Int) : (Instr.checkKey em 10000 3 (.int .i64 k)).run Tryz.prog w = .ok () w := by
  rw [show (10000 : Nat) = 9999 + 1 from rfl, Instr.checkKey]
  simp [run_underlying Tryz.underlying3]

theorem run_find_int (w : World) (k : Int) (l : List MapEntry) (r : Option (Nat × Value)) (hn : Instr.findNow (.int .i64) (.int .i64 k) l 0 = some r) :
    (Instr.findKey 3 (.int .i64 k) l).run Tryz.prog w = .ok r w := by
  simp [Instr.findKey, run_underlying Tryz.underlying3, hn]

theorem setObj_new (w : World) (o o' : Obj) : ({ w.alloc o with heap := (w.alloc o).heap.setIfInBounds w.heap.size o' } : World) = w.alloc o' := by
  show ({ w with heap := (w.heap.push o).setIfInBounds w.heap.size o' } : World) = { w with heap := w.heap.push o' }
  congr 1
  apply Array.ext_getElem?
  intro j
  simp only [Array.getElem?_setIfInBounds, Array.getElem?_push, Array.size_push]
  by_cases h : w.heap.size = j
  · subst h; simp
  · simp [h, Ne.symm h]

theorem run_setObj_mapX {w : World} {r : Nat} {es : Array MapEntry} {clock : Nat} (o : Obj) (hb : w.heap[r]? = some (.map es clock)) :
    (setObj r o).run Tryz.prog w = .ok () { w with heap := w.heap.setIfInBounds r o } := by
  simp [setObj, Sem.run, hb]

theorem run_put_size (w : World) (es : Array MapEntry) (c : Nat) (k : Int) (hn : Instr.findNow (.int .i64) (.int .i64 k) es.toList 0 = some none) :
    (Instr.mapUpdate 210 (.map (some w.heap.size)) (.int .i64 k) (.bool true)).run Tryz.prog (w.alloc (.map es c)) = .ok () (w.alloc (.map (es.push (sizeE k c)) (c + 1))) := by
  have hm : (w.alloc (.map es c)).heap[w.heap.size]? = some (.map es c) := heap_alloc_new w _
  have h1 := run_getObj_map (P := Tryz.prog) _ _ _ _ hm
  have h2 := run_setObj_mapX (.map (es.push (sizeE k c)) (c + 1)) hm
  rw [setObj_new] at h2
  have h3 := run_check_int (w.alloc (.map es c)) false k
  have h4 := run_find_int (w.alloc (.map es c)) k es.toList none hn
  unfold Instr.mapUpdate
  simp only [Sem.run_bind, run_underlying Tryz.underlying210, Result.andThen, h1, h3, h4]
  exact h2

def mayB (n : Int) : Bool := n == 1 || n == 2 || n == 4 || n == 8

theorem run_look_size (w : World) (n : Int) :
    (Instr.lookup 210 (.map (some w.heap.size)) (.int .i64 n) false).run Tryz.prog (w.alloc (.map #[sizeE 1 0, sizeE 2 1, sizeE 4 2, sizeE 8 3] 4)) =
      .ok (.bool (mayB n)) (w.alloc (.map #[sizeE 1 0, sizeE 2 1, sizeE 4 2, sizeE 8 3] 4)) := by
  have hm : (w.alloc (.map #[sizeE 1 0, sizeE 2 1, sizeE 4 2, sizeE 8 3] 4)).heap[w.heap.size]? = some (.map #[sizeE 1 0, sizeE 2 1, sizeE 4 2, sizeE 8 3] 4) := heap_alloc_new w _
  have h1 := run_getObj_map (P := Tryz.prog) _ _ _ _ hm
  generalize hW : w.alloc (.map #[sizeE 1 0, sizeE 2 1, sizeE 4 2, sizeE 8 3] 4) = W at *
  have h3 := run_check_int W (#[sizeE 1 0, sizeE 2 1, sizeE 4 2, sizeE 8 3] : Array MapEntry).isEmpty n
  have hf : ∃ r, Instr.findNow (.int .i64) (.int .i64 n) [sizeE 1 0, sizeE 2 1, sizeE 4 2, sizeE 8 3] 0 = some r ∧ (r = none ∧ mayB n = false ∨ ∃ i, r = some (i, .bool true) ∧ mayB n = true) := by
    by_cases a1 : n = 1
    · subst a1; exact ⟨_, rfl, .inr ⟨_, rfl, rfl⟩⟩
    by_cases a2 : n = 2
    · subst a2; exact ⟨_, rfl, .inr ⟨_, rfl, rfl⟩⟩
    by_cases a3 : n = 4
    · subst a3; exact ⟨_, rfl, .inr ⟨_, rfl, rfl⟩⟩
    by_cases a4 : n = 8
    · subst a4; exact ⟨_, rfl, .inr ⟨_, rfl, rfl⟩⟩
    have b1 := beq_eq_false_iff_ne.2 a1
    have b2 := beq_eq_false_iff_ne.2 a2
    have b3 := beq_eq_false_iff_ne.2 a3
    have b4 := beq_eq_false_iff_ne.2 a4
    exact ⟨none, by simp [Instr.findNow, Instr.sameNow, sizeE, b1, b2, b3, b4], .inl ⟨rfl, by simp [mayB, a1, a2, a3, a4]⟩⟩
  obtain ⟨r, hr, hc⟩ := hf
  have h4 := run_find_int W n [sizeE 1 0, sizeE 2 1, sizeE 4 2, sizeE 8 3] r hr
  have h5 : (zeroValue 4).run Tryz.prog W = .ok (.bool false) W := by kernel_rfl
  unfold Instr.lookup
  simp only [Sem.run_bind, Sem.run_pure, run_underlying Tryz.underlying210, Result.andThen, h1, h3, h4]
  rcases hc with ⟨rfl, hb⟩ | ⟨i, rfl, hb⟩
  · simp only [Sem.run_bind, Sem.run_pure, Result.andThen, h5, hb]
    rfl
  · simp only [Sem.run_bind, Sem.run_pure, Result.andThen, hb]
    rfl

set_option maxHeartbeats 400000 in
theorem maySize_any (n : Int) (w : World) :
    Calls Tryz.prog 144 #[.int .i64 n] w fun e w' => e = .returned (.bool (mayB n)) ∧ Below w.heap.size w w' := by
  have hmm := @run_makeMap Tryz.prog
  have u1 := run_put_size w #[] 0 1 rfl
  have u2 := run_put_size w #[sizeE 1 0] 1 2 rfl
  have u3 := run_put_size w #[sizeE 1 0, sizeE 2 1] 2 4 rfl
  have u4 := run_put_size w #[sizeE 1 0, sizeE 2 1, sizeE 4 2] 3 8 rfl
  have u5 := run_look_size w n
  go_enter Tryz.func144, Tryz.ntmps144
  go_wp2
  go_ret
  exact ⟨rfl, (Below.refl _ _).alloc (Nat.le_refl _) _⟩

set_option maxHeartbeats 400000 in
theorem withRoom_any {b : Value} {l : List UInt8} (more : Nat) (w : World) (hb : Bs w b l) (hn : l.length + more ≤ 1099511627776) :
    Calls Tryz.prog 146 #[b, .int .i64 (more : Int)] w (Gives w l) := by
  obtain ⟨a, cap, rfl, hb⟩ := hb.shape
  obtain ⟨w1, hr, ho, hg⟩ := run_make_bs bt w w.heap.size .i64 .i64 (l.length + more) (by omega) (Nat.le_refl _)
  have hbl : Below w.heap.size w w1 := (Below.refl _ _).grown hg (Nat.le_refl _) (fun _ h => by cases h)
  have hb1 := hb.below hbl
  have hs : ([] : List UInt8).length + l.length ≤ 140737488355328 := by simp; omega
  have hz := hbl.size
  rw [Int.natCast_add] at hr
  go_enter Tryz.func146, Tryz.ntmps146
  go_wp2_with (at_builtin; refine wpList_append_bs bt rfl _ _ rfl w.heap.size rfl rfl ho hb1 hs hz ?_; intro v2 w2 ho2 hg2)
  go_ret
  exact ⟨_, rfl, ho2, below_own hbl ho hg2⟩

set_option maxHeartbeats 400000 in
theorem putNumber_any {b : Value} {l : List UInt8} (base n k : Nat) (w : World) (ho : Ow w base 5 b l) (hl : l.length ≤ 1099511627776) (hk : k ≤ 8) (hbase : base ≤ w.heap.size) :
    Calls Tryz.prog 147 #[b, .int .u64 (n : Int), .int .i64 (k : Int)] w fun e w' => ∃ v, e = .returned v ∧ Ow w' base 5 v (l ++ beL n k) ∧ Below base w w' := by
  go_enter Tryz.func147, Tryz.ntmps147
  go_wp2
  go_loopw [0, 7, 9] (fun s j i wr => ∃ r : Nat, r ≤ k ∧ i = .int .i64 r ∧ Ow wr base 5 s (l ++ (beL n k).take r) ∧ Below base w wr) (fun _ _ i _ => k - (intOf i).toNat)
  case atStart => exact ⟨0, by omega, rfl, by simpa using ho, Below.refl _ _⟩
  case round =>
    obtain ⟨r, hr, rfl, hor, hbr⟩ := hrel
    by_cases hlt : r < k
    · have hs : (l ++ (beL n k).take r).length + [UInt8.ofNat (n / 2 ^ (8 * (k - 1 - r)))].length ≤ 140737488355328 := by simp; omega
      have hz : base ≤ (wr.alloc (.cells #[Value.int .u8 ((n : Int) / 2 ^ (8 * (k - 1 - r)) % 256)] 5)).heap.size := by have := hbr.size; simp; omega
      go_wp2_with (at_builtin; (refine wpList_append_bs bt rfl _ _ rfl base rfl rfl (hor.below ((Below.refl _ _).alloc (Nat.le_refl _) _)) (Bs.new1 _ _ _ _ (byte_val n (8 * (k - 1 - r)))) hs hz ?_); intro v2 w2 ho2 hg2)
      go_roundw
      case rel =>
        refine ⟨r + 1, by omega, by go_num, ?_, (hbr.alloc (by have := hbr.size; omega) _).grown hg2 hz (fun j hj => (World.ownsRow.lt hor j hj).1)⟩
        rw [beL_take_succ n k r hlt, ← List.append_assoc]
        exact ho2
      case measure => simp [intOf]; omega
    · obtain rfl : r = k := by omega
      rw [beL_take_all] at hor
      go_wp2
      go_ret
      exact ⟨_, rfl, hor, hbr⟩

/-- What Put answers. -/
def putL (l : List UInt8) (n : Nat) (k : Int) : List UInt8 := if mayB k = true then l ++ beL n k.toNat else l

theorem mayB_true {k : Int} (h : mayB k = true) : 1 ≤ k ∧ k ≤ 8 := by
  simp [mayB] at h
  omega

set_option maxHeartbeats 400000 in
theorem put_any {b : Value} {l : List UInt8} (n : Nat) (k : Int) (w : World) (hb : Bs w b l) (hl : l.length ≤ 1073741824) :
    Calls Tryz.prog 127 #[b, .int .u64 (n : Int), .int .i64 k] w (Gives w (putL l n k)) := by
  by_cases hk : mayB k = true
  · obtain ⟨k1, k8⟩ := mayB_true hk
    obtain ⟨k, rfl⟩ := Int.eq_ofNat_of_zero_le (show 0 ≤ k by omega)
    have hp : Hid (putL l n (k : Int) = l ++ beL n k) := Lib.hid (by unfold putL; rw [if_pos hk]; rfl)
    go_enter Tryz.func127, Tryz.ntmps127
    go_wp2_with fail
    refine (maySize_any _ _).mono ?_
    rintro e w1 ⟨rfl, hb1⟩
    have hbs := hb.below hb1
    go_wp2_with fail
    refine (withRoom_any k _ hbs (by omega)).mono ?_
    rintro e w2 ⟨v, rfl, ho, hb2⟩
    go_wp2_with fail
    refine (putNumber_any w1.heap.size n k _ ho (by omega) (by omega) hb2.size).mono ?_
    rintro e w3 ⟨v3, rfl, ho3, hb3⟩
    go_wp2
    go_ret
    refine ⟨_, rfl, ?_, hb1.trans ((hb2.trans hb3).mono hb1.size)⟩
    rw [hp.out]
    exact ho3.mono hb1.size
  · have hk' : mayB k = false := by simpa using hk
    have hp : Hid (putL l n k = l) := Lib.hid (by unfold putL; rw [if_neg hk])
    clear hk
    go_enter Tryz.func127, Tryz.ntmps127
    go_wp2_with fail
    refine (maySize_any _ _).mono ?_
    rintro e w1 ⟨rfl, hb1⟩
    have hbs := hb.below hb1
    go_wp2_with fail
    refine (withRoom_any 0 _ hbs (by omega)).mono ?_
    rintro e w2 ⟨v, rfl, ho, hb2⟩
    go_wp2
    go_ret
    refine ⟨_, rfl, ?_, hb1.trans (hb2.mono hb1.size)⟩
    rw [hp.out]
    exact ho.mono hb1.size

end Go.Proofs.YtgekeemhbnhelaaGreat
namespace Go.Proofs.YtgekeemhbnhelaaGreat
open Go.RowKit

/-! ### PutBytes -/
def putsL (l m : List UInt8) : List UInt8 := l ++ beL m.length 2 ++ m
/-- A call returns these bytes in a row of its own, and OK. -/
def Gives2 (w : World) (l : List UInt8) (e : Ending) (w' : World) : Prop := ∃ v, e = .returned (.tuple #[v, .int .i64 0]) ∧ Ow w' w.heap.size 5 v l ∧ Below w.heap.size w w'

set_option maxHeartbeats 400000 in
theorem putBytes_any {b s : Value} {l m : List UInt8} (w : World) (hb : Bs w b l) (hs : Bs w s m) (hl : l.length ≤ 1073741824) (hm : m.length ≤ 65535) :
    Calls Tryz.prog 130 #[b, s] w (Gives2 w (putsL l m)) := by
  obtain ⟨a2, cap2, rfl, hs⟩ := hs.shape
  have e1 : (2 : Int) + (m.length : Int) = ((2 + m.length : Nat) : Int) := by omega
  have h2 : (2 : Int) = ((2 : Nat) : Int) := rfl
  have hsz : (l ++ beL m.length 2).length + m.length ≤ 140737488355328 := by simp [beL_length]; omega
  have E1 := Lib.hid e1
  clear e1 h2
  go_enter Tryz.func130, Tryz.ntmps130
  go_wp2_with fail
  rw [E1.out]
  refine (withRoom_any (2 + m.length) _ hb (by omega)).mono ?_
  rintro e w2 ⟨v, rfl, ho, hb2⟩
  go_wp2_with fail
  refine (putNumber_any w.heap.size m.length 2 _ ho (by omega) (by omega) hb2.size).mono ?_
  rintro e w3 ⟨v3, rfl, ho3, hb3⟩
  have hbl := hb2.trans hb3
  have hs3 := hs.below hbl
  have hz := hbl.size
  go_wp2_with (at_builtin; refine wpList_append_bs bt rfl _ _ rfl w.heap.size rfl rfl ho3 hs3 hsz hz ?_; intro v4 w4 ho4 hg4)
  go_ret2
  exact ⟨_, rfl, ho4, below_own hbl ho3 hg4⟩

end Go.Proofs.YtgekeemhbnhelaaGreat
namespace Go.Proofs.YtgekeemhbnhelaaGreat
open Go.RowKit

theorem putL_two (l : Bytes) (n : Nat) : putL l n 2 = l ++ beL n 2 := rfl
theorem putL_four (l : Bytes) (n : Nat) : putL l n 4 = l ++ beL n 4 := rfl
theorem enc_take_succ (lvl : Nat) (l : List En) (j : Nat) (e : En) (h : l[j]? = some e) : (l.take (j + 1)).flatMap (encE lvl) = (l.take j).flatMap (encE lvl) ++ encE lvl e := by
  rw [List.take_add_one, h]
  simp
theorem bodyL_take_succ (lvl : Nat) (l : List En) (j : Nat) (e : En) (h : l[j]? = some e) : bodyL lvl (l.take (j + 1)) = bodyL lvl (l.take j) ++ encE lvl e := by
  unfold bodyL
  rw [enc_take_succ lvl l j e h, List.append_assoc]

set_option maxHeartbeats 1000000 in
theorem body_any {p : Int} {lvl : Nat} {ev tv : Value} {S : Nat → Prop} {es : List En} (w : World) (h : Rd kdEn w S ev es) (hf : Few es) (hp : ∀ e ∈ es, e.page ≤ 4294967295) (hn : 2 + nsize lvl es ≤ 1073741824) (hl : lvl ≤ 65535) :
    Calls Tryz.prog 101 #[ndv p (lvl : Int) ev tv] w fun e w' => ∃ v, e = .returned v ∧ Bs w' v (bodyL lvl es) ∧ Below w.heap.size w w' := by
  obtain ⟨ea, ec, rfl, _⟩ := h.shape
  have hb : Below w.heap.size w (w.alloc (.cells #[.int .i64 p, .int .i64 (lvl : Int), .slice ea es.length ec, tv] 85)) := (Below.refl _ _).alloc (Nat.le_refl _) _
  have cl : (w.alloc (.cells #[.int .i64 p, .int .i64 (lvl : Int), .slice ea es.length ec, tv] 85)).cell? ⟨w.heap.size, 1, none⟩ = some (.int .i64 (lvl : Int)) := by simp
  have cl2 : (w.alloc (.cells #[.int .i64 p, .int .i64 (lvl : Int), .slice ea es.length ec, tv] 85)).cell? ⟨w.heap.size, 2, none⟩ = some (.slice ea es.length ec) := by simp
  have z : (w.alloc (.cells #[.int .i64 p, .int .i64 (lvl : Int), .slice ea es.length ec, tv] 85)).heap.size = w.heap.size + 1 := by simp
  have P0 := put_any (b := .slice none 0 0) (l := []) lvl 2 (w.alloc (.cells #[.int .i64 p, .int .i64 (lvl : Int), .slice ea es.length ec, tv] 85)) (Bs.nil _) (by decide)
  rw [putL_two, List.nil_append] at P0
  have hl0 : (lvl : Int) ≤ 65535 := by omega
  have hlen : es.length ≤ 1073741824 := by have := length_le_nsize lvl es; omega
  have HH := Lib.hid (And.intro h (And.intro hf (And.intro hp (And.intro hb (And.intro cl (And.intro cl2 z))))))
  clear h hf hp hb cl cl2 z
  go_enter Tryz.func101, Tryz.ntmps101
  go_wp2_with fail
  refine P0.mono ?_
  rintro e w1 ⟨v1, rfl, ho1, hb1⟩
  clear P0
  have d1 := (hb1.cell (p := ⟨w.heap.size, 1, none⟩) (by rw [HH.out.2.2.2.2.2.2]; exact Nat.lt_succ_self _)).trans HH.out.2.2.2.2.1
  have d2 := (hb1.cell (p := ⟨w.heap.size, 2, none⟩) (by rw [HH.out.2.2.2.2.2.2]; exact Nat.lt_succ_self _)).trans HH.out.2.2.2.2.2.1
  have hz1 : w.heap.size < w1.heap.size := by have := hb1.size; have := HH.out.2.2.2.2.2.2; omega
  have hbw1 := HH.out.2.2.2.1.trans (hb1.mono (by have := HH.out.2.2.2.2.2.2; omega))
  have H1 := Lib.hid (And.intro ho1.bs (And.intro hbw1 (And.intro d1 hz1)))
  clear ho1 hb1 hz1 hbw1 d1
  go_wp2
  go_loopw [3, 13] (fun b i wr => ∃ j : Nat, j ≤ es.length ∧ i = .int .i64 j ∧ Bs wr b (bodyL lvl (es.take j)) ∧ Below w1.heap.size w1 wr) (fun _ i _ => es.length - (intOf i).toNat)
  case atStart => exact ⟨0, Nat.zero_le _, rfl, by simpa [bodyL] using H1.out.1, Below.refl _ _⟩
  case round =>
    obtain ⟨j, hj, rfl, hbs, hbw⟩ := hrel
    have bw := H1.out.2.1.trans (hbw.mono (Nat.le_of_lt H1.out.2.2.2))
    by_cases hlt : j < es.length
    · obtain ⟨a, ha⟩ : ∃ a, es[j]? = some a := ⟨_, List.getElem?_eq_getElem hlt⟩
      have hr := HH.out.1.step (Step.of_below bw S)
      obtain ⟨g, o, cap, ka, kc, va, vc, e0, hg, c0, c1, c2, hk, hv⟩ := hr.ent ha
      simp only [Value.slice.injEq] at e0
      obtain ⟨rfl, _, rfl⟩ := e0
      have hil : (j : Int) < (es.length : Int) := by omega
      have c3 : wr.cell? ⟨w.heap.size, 1, none⟩ = some (.int .i64 (lvl : Int)) := (hbw.cell (p := ⟨w.heap.size, 1, none⟩) H1.out.2.2.2).trans H1.out.2.2.1
      have hfa := HH.out.2.1 a (List.mem_of_getElem? ha)
      have hpa := HH.out.2.2.1 a (List.mem_of_getElem? ha)
      have hsz : (bodyL lvl (es.take j)).length + esize lvl a ≤ 1073741824 := by
        have h1 := nsize_take_succ lvl es j a ha
        have h2 := nsize_take_le lvl es (j + 1)
        rw [bodyL_length]
        omega
      have hes : 2 + a.key.length ≤ esize lvl a := by unfold esize; split <;> omega
      have hw1 : Below wr.heap.size wr (wr.alloc (.cells #[.slice ka a.key.length kc, .slice va a.val.length vc, .int .i64 (a.page : Nat)] 93)) := (Below.refl _ _).alloc (Nat.le_refl _) _
      have PK := putBytes_any _ (hbs.below hw1) (hk.1.below hw1) (by omega) hfa.1
      have HB := Lib.hid (bodyL_take_succ lvl es j a ha)
      have hz2 : (wr.alloc (.cells #[.slice ka a.key.length kc, .slice va a.val.length vc, .int .i64 (a.page : Nat)] 93)).heap.size = wr.heap.size + 1 := by simp
      have e1 : (wr.alloc (.cells #[.slice ka a.key.length kc, .slice va a.val.length vc, .int .i64 (a.page : Nat)] 93)).cell? ⟨wr.heap.size, 1, none⟩ = some (.slice va a.val.length vc) := by simp
      have e2 : (wr.alloc (.cells #[.slice ka a.key.length kc, .slice va a.val.length vc, .int .i64 (a.page : Nat)] 93)).cell? ⟨wr.heap.size, 2, none⟩ = some (.int .i64 (a.page : Nat)) := by simp
      have hwz : w.heap.size < wr.heap.size := by have := hbw.size; have := H1.out.2.2.2; omega
      have c4 : (wr.alloc (.cells #[.slice ka a.key.length kc, .slice va a.val.length vc, .int .i64 (a.page : Nat)] 93)).cell? ⟨w.heap.size, 1, none⟩ = some (.int .i64 (lvl : Int)) := (hw1.cell (p := ⟨w.heap.size, 1, none⟩) hwz).trans c3
      have H2 := Lib.hid (And.intro hbw (And.intro hw1 (And.intro hz2 (And.intro e1 (And.intro e2 (And.intro c4 (And.intro hv (And.intro hwz (And.intro hsz hfa.2)))))))))
      clear hr ha hbs hk hv hbw bw hw1 hz2 e1 e2 c4 hwz hfa c3
      go_wp2_with fail
      refine PK.mono ?_
      rintro e w2 ⟨v2, rfl, ho2, hb2⟩
      clear PK
      obtain ⟨hbw, hw1, hz2, e1, e2, c4, hv, hwz, hsz, hfv⟩ := H2.out
      have f1 := (hb2.cell (p := ⟨wr.heap.size, 1, none⟩) (by rw [hz2]; exact Nat.lt_succ_self _)).trans e1
      have f2 := (hb2.cell (p := ⟨wr.heap.size, 2, none⟩) (by rw [hz2]; exact Nat.lt_succ_self _)).trans e2
      have f3 := (hb2.cell (p := ⟨w.heap.size, 1, none⟩) (by rw [hz2]; show w.heap.size < _; omega)).trans c4
      have hb3 := hbw.trans ((hw1.trans (hb2.mono (by omega))).mono hbw.size)
      have hb4 := hw1.trans (hb2.mono (by omega))
      have hpi : (a.page : Int) ≤ 4294967295 := by omega
      by_cases hl00 : lvl = 0
      · have hli : ((lvl : Int) == 0) = true := by rw [hl00]; rfl
        have PV := putBytes_any w2 ho2.bs (hv.1.below hb4) (by unfold putsL; rw [List.length_append, List.length_append, beL_length]; omega) hfv
        have H3 := Lib.hid (And.intro hb3 (And.intro hb4 hl00))
        clear hbw hw1 hz2 e1 e2 c4 hv hwz hsz hfv H2 ho2 hb2 hb3 hb4 hl00 f2
        go_wp2_with fail
        refine PV.mono ?_
        rintro e w3 ⟨v3, rfl, ho3, hb5⟩
        clear PV
        have H4 := Lib.hid (And.intro ho3 hb5)
        clear ho3 hb5
        go_wp2
        go_roundw
        case rel =>
          refine ⟨j + 1, by omega, by go_num, ?_, H3.out.1.trans (H4.out.2.mono H3.out.1.size)⟩
          have := H4.out.1.bs
          rw [HB.out]
          unfold putsL at this
          unfold encE
          rw [if_pos H3.out.2.2]
          simpa only [List.append_assoc] using this
        case measure => simp [intOf]; omega
      · have hli : ((lvl : Int) == 0) = false := by rw [beq_eq_false_iff_ne]; omega
        have PV := put_any a.page 4 w2 ho2.bs (by unfold putsL; rw [List.length_append, List.length_append, beL_length]; omega)
        rw [putL_four] at PV
        have H3 := Lib.hid (And.intro hb3 (And.intro hb4 hl00))
        clear hbw hw1 hz2 e1 e2 c4 hv hwz hsz hfv H2 ho2 hb2 hb3 hb4 hl00 f1
        go_wp2_with fail
        refine PV.mono ?_
        rintro e w3 ⟨v3, rfl, ho3, hb5⟩
        clear PV
        have H4 := Lib.hid (And.intro ho3 hb5)
        clear ho3 hb5
        go_wp2
        go_roundw
        case rel =>
          refine ⟨j + 1, by omega, by go_num, ?_, H3.out.1.trans (H4.out.2.mono H3.out.1.size)⟩
          have := H4.out.1.bs
          rw [HB.out]
          unfold putsL at this
          unfold encE
          rw [if_neg H3.out.2.2]
          simpa only [List.append_assoc] using this
        case measure => simp [intOf]; omega
    · obtain rfl : j = es.length := by omega
      rw [List.take_length] at hbs
      have H2 := Lib.hid (And.intro hbs bw)
      clear hbs bw hbw
      go_wp2
      go_ret
      exact ⟨_, rfl, H2.out.1, H2.out.2⟩
end Go.Proofs.YtgekeemhbnhelaaGreat
