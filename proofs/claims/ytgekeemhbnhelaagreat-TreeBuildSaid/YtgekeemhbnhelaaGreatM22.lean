/- What is done to a leaf: a pair more, a pair less: the walks of the two functions that Put and Cut hand on; condition: the leaf's keys rise. -/
import Derived.Test.YtgekeemhbnhelaaGreatM05
import Derived.Test.YtgekeemhbnhelaaGreatM06
namespace Go.Proofs.YtgekeemhbnhelaaGreat
open Go.RowKit

def cut1E (es : List En) (key : Bytes) : List En := es.take (fnd es key) ++ es.drop (fnd es key + 1)
def Cuts1 (w : World) (S : Nat → Prop) (es : List En) (key : Bytes) (e : Ending) (w' : World) : Prop :=
  (fndIs es key = false ∧ e = .returned (.tuple #[.slice none 0 0, .bool false]) ∧ Below w.heap.size w w') ∨
  (fndIs es key = true ∧ ∃ v, e = .returned (.tuple #[v, .bool true]) ∧ Rd kdEn w' S v (cut1E es key) ∧ Below w.heap.size w w')

set_option maxRecDepth 100000 in
set_option maxHeartbeats 4000000 in
theorem cut1_any {p : Int} {l : Nat} {ev tv kv : Value} {S : Nat → Prop} {es : List En} {key : Bytes} {kb : Nat} (w : World) (h : Rd kdEn w S ev es) (hr : RiseE es) (hn : es.length ≤ 1000000) (hk : w.cell? ⟨kb, 0, none⟩ = some kv) (hkb : kb < w.heap.size) (hkv : Bs w kv key) (hS : ∀ q, S q → q < w.heap.size) :
    Calls Tryz.prog 65 #[ndv p (l : Int) ev tv, ptr kb] w (Cuts1 w S es key) := by
  obtain ⟨ea, ec, rfl, hcap, _⟩ := h.shape
  have hb : Below w.heap.size w (w.alloc (.cells #[.int .i64 p, .int .i64 (l : Int), .slice ea es.length ec, tv] 85)) := (Below.refl _ _).alloc (Nat.le_refl _) _
  have C := Cel.new w #[.int .i64 p, .int .i64 (l : Int), .slice ea es.length ec, tv] 85
  obtain ⟨W, hW⟩ : ∃ W, W = w.alloc (.cells #[.int .i64 p, .int .i64 (l : Int), .slice ea es.length ec, tv] 85) := ⟨_, rfl⟩
  have hz : W.heap.size = w.heap.size + 1 := by rw [hW]; simp
  rw [← hW] at hb C
  have F := find_any (p := p) (l := (l : Int)) (tv := tv) W (h.step (Step.of_below hb S)) (hkv.below hb) hr (by omega)
  have q0 : W.cell? ⟨w.heap.size, 0, none⟩ = some (.int .i64 p) := C.cell 0
  have q1 : W.cell? ⟨w.heap.size, 1, none⟩ = some (.int .i64 (l : Int)) := C.cell 1
  have q2 : W.cell? ⟨w.heap.size, 2, none⟩ = some (.slice ea es.length ec) := C.cell 2
  have q3 : W.cell? ⟨w.heap.size, 3, none⟩ = some tv := C.cell 3
  have qk : W.cell? ⟨kb, 0, none⟩ = some kv := (hb.cell hkb).trans hk
  have hle := fnd_le es key
  have hfis : fndIs es key = true → fnd es key < es.length := fun hf => by
    unfold fndIs at hf
    rcases Nat.lt_or_ge (fnd es key) es.length with h1 | h1
    · exact h1
    · rw [List.getElem?_eq_none h1] at hf
      cases hf
  unfold Cuts1 cut1E
  obtain ⟨i, hi⟩ : ∃ i, i = fnd es key := ⟨_, rfl⟩
  rw [← hi] at F hle hfis
  rw [← hi]
  obtain ⟨n, hnn⟩ : ∃ n, n = es.length := ⟨_, rfl⟩
  rw [← hnn] at F q2 hW hle hfis hcap hn
  rw [← hnn]
  rw [hW] at F qk
  have hd := h.step (Step.of_below hb S)
  rw [← hnn] at hd
  have HH := Lib.hid (And.intro hd (And.intro hb (And.intro hS (And.intro hnn hz))))
  have HC := Lib.hid C.lt
  have hqs : ∀ W1, Below W.heap.size W W1 → W1.cell? ⟨w.heap.size, 2, none⟩ = some (.slice ea n ec) := fun W1 hb1 => (hb1.cell C.lt).trans q2
  have HQ := Lib.hid hqs
  clear h hr hk hkb hkv hS hb C hd hnn hi hz hqs
  cases hfi : fndIs es key with
  | false =>
    rw [hfi] at F
    clear hfi hfis
    go_enter Tryz.func65, Tryz.ntmps65
    go_wp2_with fail
    refine F.mono ?_
    rintro e w1 ⟨rfl, hb1⟩
    clear F
    rw [← hW] at hb1
    have H1 := Lib.hid hb1
    clear hb1 hW qk
    go_wp2
    go_ret2
    exact .inl ⟨by trivial, rfl, HH.out.2.1.trans (H1.out.mono HH.out.2.1.size)⟩
  | true =>
    rw [hfi] at F
    have hlt := hfis hfi
    clear hfi hfis
    go_enter Tryz.func65, Tryz.ntmps65
    go_wp2_with fail
    refine F.mono ?_
    rintro e w1 ⟨rfl, hb1⟩
    clear F
    rw [← hW] at hb1
    have hS1 := HQ.out w1 hb1
    have H1 := Lib.hid hb1
    clear hb1 hW qk
    have hwr : IntKind.i64.wrap ((i : Int) + 1) = (i : Int) + 1 := IntWalk.i64_in _ (by omega)
    have hi1 : (i : Int) + 1 ≤ (n : Int) := by omega
    have hi2 : (i : Int) ≤ (ec : Int) := by omega
    have hi3 : (n : Int) ≤ (ec : Int) := by omega
    have hi4 : (0 : Int) ≤ (i : Int) := by omega
    have hi6 : ¬ (i : Int) + 1 < 0 := by omega
    go_wp2_with fail
    have HX := Lib.hid (fun (W1 : World) (hW1 : W1.cell? ⟨w.heap.size, 2, none⟩ = some (.slice ea n ec)) => hW1)
    refine region_till 99 (fun W1 => W1.cell? ⟨w.heap.size, 2, none⟩ = some (.slice ea n ec)) (by kernel_rfl) hS1 (fun hS => ?_)
    refine take_till (i := 0) (some 14) (.pointer (some ⟨w.heap.size, 2, none⟩)) rfl rfl (by kernel_rfl) (by kernel_rfl) (by kernel_rfl) (by kernel_rfl) (by decide) (fun _ _ _ h => h) (by rfl) (fun W hW => ?_) hS ?_
    · have hx := HX.out W hW
      clear hW
      go_simp
    simp only [Act.put, List.setIfInBounds_toArray, List.set_cons_zero, List.set_cons_succ]
    refine take_till (i := 1) (some 15) (.slice ea n ec) rfl rfl (by kernel_rfl) (by kernel_rfl) (by kernel_rfl) (by kernel_rfl) (by decide) (fun _ _ _ h => h) (by rfl) (fun W hW => ?_) hS ?_
    · have hx := HX.out W hW
      clear hW
      go_simp
    simp only [Act.put, List.setIfInBounds_toArray, List.set_cons_zero, List.set_cons_succ]
    refine take_till (i := 2) (some 16) (.int .i64 (i : Int)) rfl rfl (by kernel_rfl) (by kernel_rfl) (by kernel_rfl) (by kernel_rfl) (by decide) (fun _ _ _ h => h) (by rfl) (fun W hW => ?_) hS ?_
    · have hx := HX.out W hW
      clear hW
      go_simp
    simp only [Act.put, List.setIfInBounds_toArray, List.set_cons_zero, List.set_cons_succ]
    refine take_till (i := 3) (some 17) (.slice ea i ec) rfl rfl (by kernel_rfl) (by kernel_rfl) (by kernel_rfl) (by kernel_rfl) (by decide) (fun _ _ _ h => h) (by rfl) (fun W hW => ?_) hS ?_
    · have hx := HX.out W hW
      clear hW
      go_simp
    simp only [Act.put, List.setIfInBounds_toArray, List.set_cons_zero, List.set_cons_succ]
    refine take_till (i := 4) (some 18) (.pointer (some ⟨w.heap.size, 2, none⟩)) rfl rfl (by kernel_rfl) (by kernel_rfl) (by kernel_rfl) (by kernel_rfl) (by decide) (fun _ _ _ h => h) (by rfl) (fun W hW => ?_) hS ?_
    · have hx := HX.out W hW
      clear hW
      go_simp
    simp only [Act.put, List.setIfInBounds_toArray, List.set_cons_zero, List.set_cons_succ]
    refine take_till (i := 5) (some 19) (.slice ea n ec) rfl rfl (by kernel_rfl) (by kernel_rfl) (by kernel_rfl) (by kernel_rfl) (by decide) (fun _ _ _ h => h) (by rfl) (fun W hW => ?_) hS ?_
    · have hx := HX.out W hW
      clear hW
      go_simp
    simp only [Act.put, List.setIfInBounds_toArray, List.set_cons_zero, List.set_cons_succ]
    refine take_till (i := 6) (some 20) (.int .i64 (i : Int)) rfl rfl (by kernel_rfl) (by kernel_rfl) (by kernel_rfl) (by kernel_rfl) (by decide) (fun _ _ _ h => h) (by rfl) (fun W hW => ?_) hS ?_
    · have hx := HX.out W hW
      clear hW
      go_simp
    simp only [Act.put, List.setIfInBounds_toArray, List.set_cons_zero, List.set_cons_succ]
    refine take_till (i := 7) (some 21) (.int .i64 ((i : Int) + 1)) rfl rfl (by kernel_rfl) (by kernel_rfl) (by kernel_rfl) (by kernel_rfl) (by decide) (fun _ _ _ h => h) (by rfl) (fun W hW => ?_) hS ?_
    · have hx := HX.out W hW
      clear hW
      go_simp
    simp only [Act.put, List.setIfInBounds_toArray, List.set_cons_zero, List.set_cons_succ]
    refine take_till (i := 8) (some 22) (.slice (if ec = i + 1 then ea else Option.map (fun x => x.add ((i + 1) * 3)) ea) (n - (i + 1)) (ec - (i + 1))) rfl rfl (by kernel_rfl) (by kernel_rfl) (by kernel_rfl) (by kernel_rfl) (by decide) (fun _ _ _ h => h) (by rfl) (fun W hW => ?_) hS ?_
    · have hx := HX.out W hW
      clear hW
      go_simp
    simp only [Act.put, List.setIfInBounds_toArray, List.set_cons_zero, List.set_cons_succ]
    have hrd := HH.out.1.step (Step.of_below H1.out S)
    have hin : i ≤ es.length := by have := HH.out.2.2.2.1; omega
    have hin1 : i + 1 ≤ es.length := by have := HH.out.2.2.2.1; omega
    have h1 := hrd.upto i hin
    have h2 : Rd kdEn w1 S (.slice (if ec = i + 1 then ea else Option.map (fun x => x.add ((i + 1) * 3)) ea) (n - (i + 1)) (ec - (i + 1))) (es.drop (i + 1)) := by
      have := hrd.from (i + 1) hin1
      rw [← HH.out.2.2.2.1] at this
      exact this
    obtain ⟨da, hda⟩ : ∃ da, da = (if ec = i + 1 then ea else Option.map (fun x => x.add ((i + 1) * 3)) ea) := ⟨_, rfl⟩
    rw [← hda] at h2
    rw [← hda]
    clear hda
    have hSW : ∀ q, S q → q < w1.heap.size := fun q hq => by have := HH.out.2.2.1 q hq; have := HH.out.2.1.size; have := H1.out.size; omega
    have hlit : Rd kdEs (w1.drew.alloc (.cells #[.slice ea i ec, .slice da (n - (i + 1)) (ec - (i + 1))] 83)) S (.slice (some ⟨w1.drew.heap.size, 0, none⟩) 2 2) [es.take i, es.drop (i + 1)] :=
      rd_lit kdEs w1.drew 83 S hSW [⟨⟨ea, i, ec⟩, es.take i⟩, ⟨⟨da, n - (i + 1), ec - (i + 1)⟩, es.drop (i + 1)⟩] _ rfl (fun t ht => by
        rcases List.mem_cons.1 ht with rfl | ht
        · exact h1.step (Step.refl S w1).drew
        · rw [List.mem_singleton] at ht
          subst ht
          exact h2.step (Step.refl S w1).drew) (by simp) rfl
    have hlenE : lenE [es.take i, es.drop (i + 1)] ≤ 2147483648 := by have := HH.out.2.2.2.1; simp [lenE]; omega
    have A := concat_any _ hlit (fun q hq => by have := hSW q hq; simp; omega) (by simp) hlenE
    have hs3 : (w1.drew.alloc (.cells #[.slice ea i ec, .slice da (n - (i + 1)) (ec - (i + 1))] 83)).cell? ⟨w.heap.size, 2, none⟩ = some (.slice ea n ec) := HQ.out _ (H1.out.drew.alloc H1.out.size _)
    have hb4 : Below W.heap.size W (w1.drew.alloc (.cells #[.slice ea i ec, .slice da (n - (i + 1)) (ec - (i + 1))] 83)) := H1.out.drew.alloc H1.out.size _
    have H4 := Lib.hid (And.intro hs3 hb4)
    clear hrd hin hin1 h1 h2 hSW hlit hlenE hs3 hb4 hS hS1
    refine next_till 9 (by kernel_rfl) rfl (fun K hK => ?_)
    go_simp
    refine hK.out _ _ (fun _ => H4.out.1) ?_
    clear hK K
    refine next_till 10 (by kernel_rfl) rfl (fun K hK => ?_)
    go_simp
    refine A.mono ?_
    rintro e w2 ⟨v, rfl, hv, hb2, _⟩
    have hb5 := H4.out.2.trans (hb2.mono H4.out.2.size)
    have hs5 := HQ.out _ hb5
    refine hK.out _ _ (fun _ => hs5) ?_
    clear hK K A
    have hflat : ([es.take i, es.drop (i + 1)] : List (List En)).flatten = es.take i ++ es.drop (i + 1) := by simp
    rw [hflat] at hv
    have H5 := Lib.hid (And.intro hv hb5)
    clear hv hb2 hflat hb5
    refine next_till 11 (by kernel_rfl) rfl (fun K hK => ?_)
    go_simp
    refine hK.out _ _ (fun _ => hs5) ?_
    clear hK K
    refine next_till 12 (by kernel_rfl) rfl (fun K hK => ?_)
    go_simp
    refine hK.out _ _ (fun _ => hs5) ?_
    clear hK K
    refine done_till (by kernel_rfl) ?_ _
    go_wp2
    go_ret2
    exact .inr ⟨by trivial, _, rfl, H5.out.1, HH.out.2.1.trans (H5.out.2.mono HH.out.2.1.size)⟩

def put1E (es : List En) (key val : Bytes) : List En := es.take (fnd es key) ++ ⟨key, val, 0⟩ :: es.drop (if fndIs es key = true then fnd es key + 1 else fnd es key)
def Puts1 (w : World) (S : Nat → Prop) (es : List En) (key val : Bytes) (e : Ending) (w' : World) : Prop :=
  ∃ v, e = .returned (.tuple #[v, .bool true]) ∧ Rd kdEn w' S v (put1E es key val) ∧ Below w.heap.size w w'

set_option maxRecDepth 100000 in
set_option maxHeartbeats 8000000 in
theorem put1_any {p : Int} {l : Nat} {ev tv kv vv : Value} {S : Nat → Prop} {es : List En} {key val : Bytes} {kb vb : Nat} (w : World) (h : Rd kdEn w S ev es) (hr : RiseE es) (hn : es.length ≤ 1000000) (hk : w.cell? ⟨kb, 0, none⟩ = some kv) (hkb : kb < w.heap.size) (hkv : Bsf w S kv key)
    (hv : w.cell? ⟨vb, 0, none⟩ = some vv) (hvb : vb < w.heap.size) (hvv : Bsf w S vv val) (hS : ∀ q, S q → q < w.heap.size) :
    Calls Tryz.prog 67 #[ndv p (l : Int) ev tv, ptr kb, ptr vb] w (Puts1 w S es key val) := by
  obtain ⟨ea, ec, rfl, hcap, _⟩ := h.shape
  obtain ⟨ka, kc, rfl, _⟩ := hkv.1.shape
  obtain ⟨va, vc, rfl, _⟩ := hvv.1.shape
  have hb : Below w.heap.size w (w.alloc (.cells #[.int .i64 p, .int .i64 (l : Int), .slice ea es.length ec, tv] 85)) := (Below.refl _ _).alloc (Nat.le_refl _) _
  have C := Cel.new w #[.int .i64 p, .int .i64 (l : Int), .slice ea es.length ec, tv] 85
  obtain ⟨W, hW⟩ : ∃ W, W = w.alloc (.cells #[.int .i64 p, .int .i64 (l : Int), .slice ea es.length ec, tv] 85) := ⟨_, rfl⟩
  have hz : W.heap.size = w.heap.size + 1 := by rw [hW]; simp
  rw [← hW] at hb C
  have F := find_any (p := p) (l := (l : Int)) (tv := tv) W (h.step (Step.of_below hb S)) (hkv.1.below hb) hr (by omega)
  have hke := hkv.step (Step.of_below hb S)
  have hve := hvv.step (Step.of_below hb S)
  obtain ⟨kn, hkn⟩ : ∃ kn, kn = key.length := ⟨_, rfl⟩
  obtain ⟨vn, hvn⟩ : ∃ vn, vn = val.length := ⟨_, rfl⟩
  rw [← hkn] at hk hke F
  rw [← hvn] at hv hve
  have q2 : W.cell? ⟨w.heap.size, 2, none⟩ = some (.slice ea es.length ec) := C.cell 2
  have qk : W.cell? ⟨kb, 0, none⟩ = some (.slice ka kn kc) := (hb.cell hkb).trans hk
  have qv : W.cell? ⟨vb, 0, none⟩ = some (.slice va vn vc) := (hb.cell hvb).trans hv
  have hle := fnd_le es key
  have hfis : fndIs es key = true → fnd es key < es.length := fun hf => by
    unfold fndIs at hf
    rcases Nat.lt_or_ge (fnd es key) es.length with h1 | h1
    · exact h1
    · rw [List.getElem?_eq_none h1] at hf
      cases hf
  unfold Puts1 put1E
  obtain ⟨i, hi⟩ : ∃ i, i = fnd es key := ⟨_, rfl⟩
  rw [← hi] at F hle hfis
  rw [← hi]
  obtain ⟨n, hnn⟩ : ∃ n, n = es.length := ⟨_, rfl⟩
  rw [← hnn] at F q2 hW hle hfis hcap hn
  rw [← hnn]
  have hd := h.step (Step.of_below hb S)
  rw [← hnn] at hd
  have hkbW : kb < W.heap.size := by omega
  have hvbW : vb < W.heap.size := by omega
  have hqs : ∀ W1, Below W.heap.size W W1 → W1.cell? ⟨w.heap.size, 2, none⟩ = some (.slice ea n ec) ∧ W1.cell? ⟨kb, 0, none⟩ = some (.slice ka kn kc) ∧ W1.cell? ⟨vb, 0, none⟩ = some (.slice va vn vc) :=
    fun W1 hb1 => ⟨(hb1.cell C.lt).trans q2, (hb1.cell hkbW).trans qk, (hb1.cell hvbW).trans qv⟩
  have HH := Lib.hid (And.intro hd (And.intro hb (And.intro hS (And.intro hnn (And.intro hke hve)))))
  have HQ := Lib.hid hqs
  rw [hW] at F qk
  clear h hr hk hkb hkv hS hb C hd hnn hi hz hqs hke hve hkbW hvbW hv hvb hvv qv q2 hkn hvn
  cases hfi : fndIs es key with
  | false =>
    rw [hfi] at F
    clear hfi hfis
    go_enter Tryz.func67, Tryz.ntmps67
    go_wp2_with fail
    refine F.mono ?_
    rintro e w1 ⟨rfl, hb1⟩
    clear F
    rw [← hW] at hb1
    have hS1 := HQ.out w1 hb1
    have H1 := Lib.hid hb1
    clear hb1 hW qk
    have hi1 : (i : Int) ≤ (n : Int) := by omega
    have hi2 : (i : Int) ≤ (ec : Int) := by omega
    have hi3 : (n : Int) ≤ (ec : Int) := by omega
    have hi4 : (0 : Int) ≤ (i : Int) := by omega
    have hi6 : ¬ (i : Int) < 0 := by omega
    go_wp2_with fail
    have HX := Lib.hid (fun (W1 : World) (hW1 : W1.cell? ⟨w.heap.size, 2, none⟩ = some (.slice ea n ec) ∧ W1.cell? ⟨kb, 0, none⟩ = some (.slice ka kn kc) ∧ W1.cell? ⟨vb, 0, none⟩ = some (.slice va vn vc)) => hW1)
    refine region_till 99 (fun W1 => W1.cell? ⟨w.heap.size, 2, none⟩ = some (.slice ea n ec) ∧ W1.cell? ⟨kb, 0, none⟩ = some (.slice ka kn kc) ∧ W1.cell? ⟨vb, 0, none⟩ = some (.slice va vn vc)) (by kernel_rfl) hS1 (fun hS => ?_)
    refine take_till (i := 0) (some 18) (.pointer (some ⟨w.heap.size, 2, none⟩)) rfl rfl (by kernel_rfl) (by kernel_rfl) (by kernel_rfl) (by kernel_rfl) (by decide) (fun _ _ _ h => h) (by rfl) (fun W hW => ?_) hS ?_
    · have hx := HX.out W hW
      clear hW
      go_simp
    simp only [Act.put, List.setIfInBounds_toArray, List.set_cons_zero, List.set_cons_succ]
    refine take_till (i := 1) (some 19) (.slice ea n ec) rfl rfl (by kernel_rfl) (by kernel_rfl) (by kernel_rfl) (by kernel_rfl) (by decide) (fun _ _ _ h => h) (by rfl) (fun W hW => ?_) hS ?_
    · have hx := HX.out W hW
      clear hW
      go_simp
    simp only [Act.put, List.setIfInBounds_toArray, List.set_cons_zero, List.set_cons_succ]
    refine take_till (i := 2) (some 20) (.int .i64 (i : Int)) rfl rfl (by kernel_rfl) (by kernel_rfl) (by kernel_rfl) (by kernel_rfl) (by decide) (fun _ _ _ h => h) (by rfl) (fun W hW => ?_) hS ?_
    · have hx := HX.out W hW
      clear hW
      go_simp
    simp only [Act.put, List.setIfInBounds_toArray, List.set_cons_zero, List.set_cons_succ]
    refine take_till (i := 3) (some 21) (.slice ea i ec) rfl rfl (by kernel_rfl) (by kernel_rfl) (by kernel_rfl) (by kernel_rfl) (by decide) (fun _ _ _ h => h) (by rfl) (fun W hW => ?_) hS ?_
    · have hx := HX.out W hW
      clear hW
      go_simp
    simp only [Act.put, List.setIfInBounds_toArray, List.set_cons_zero, List.set_cons_succ]
    refine take_till (i := 4) (some 22) (.slice ka kn kc) rfl rfl (by kernel_rfl) (by kernel_rfl) (by kernel_rfl) (by kernel_rfl) (by decide) (fun _ _ _ h => h) (by rfl) (fun W hW => ?_) hS ?_
    · have hx := HX.out W hW
      clear hW
      go_simp
    simp only [Act.put, List.setIfInBounds_toArray, List.set_cons_zero, List.set_cons_succ]
    refine take_till (i := 5) (some 23) (.slice va vn vc) rfl rfl (by kernel_rfl) (by kernel_rfl) (by kernel_rfl) (by kernel_rfl) (by decide) (fun _ _ _ h => h) (by rfl) (fun W hW => ?_) hS ?_
    · have hx := HX.out W hW
      clear hW
      go_simp
    simp only [Act.put, List.setIfInBounds_toArray, List.set_cons_zero, List.set_cons_succ]
    refine take_till (i := 6) (some 24) (.agg #[.slice ka kn kc, .slice va vn vc, .int .i64 0]) rfl rfl (by kernel_rfl) (by kernel_rfl) (by kernel_rfl) (by kernel_rfl) (by decide) (fun _ _ _ h => h) (by rfl) (fun W hW => ?_) hS ?_
    · have hx := HX.out W hW
      clear hW
      go_simp
    simp only [Act.put, List.setIfInBounds_toArray, List.set_cons_zero, List.set_cons_succ]
    refine take_till (i := 8) (some 26) (.pointer (some ⟨w.heap.size, 2, none⟩)) rfl rfl (by kernel_rfl) (by kernel_rfl) (by kernel_rfl) (by kernel_rfl) (by decide) (fun _ _ _ h => h) (by rfl) (fun W hW => ?_) hS ?_
    · have hx := HX.out W hW
      clear hW
      go_simp
    simp only [Act.put, List.setIfInBounds_toArray, List.set_cons_zero, List.set_cons_succ]
    refine take_till (i := 9) (some 27) (.slice ea n ec) rfl rfl (by kernel_rfl) (by kernel_rfl) (by kernel_rfl) (by kernel_rfl) (by decide) (fun _ _ _ h => h) (by rfl) (fun W hW => ?_) hS ?_
    · have hx := HX.out W hW
      clear hW
      go_simp
    simp only [Act.put, List.setIfInBounds_toArray, List.set_cons_zero, List.set_cons_succ]
    refine take_till (i := 10) (some 28) (.int .i64 ((i : Int))) rfl rfl (by kernel_rfl) (by kernel_rfl) (by kernel_rfl) (by kernel_rfl) (by decide) (fun _ _ _ h => h) (by rfl) (fun W hW => ?_) hS ?_
    · have hx := HX.out W hW
      clear hW
      go_simp
    simp only [Act.put, List.setIfInBounds_toArray, List.set_cons_zero, List.set_cons_succ]
    refine take_till (i := 11) (some 29) (.slice (if ec = i then ea else Option.map (fun x => x.add (i * 3)) ea) (n - i) (ec - i)) rfl rfl (by kernel_rfl) (by kernel_rfl) (by kernel_rfl) (by kernel_rfl) (by decide) (fun _ _ _ h => h) (by rfl) (fun W hW => ?_) hS ?_
    · have hx := HX.out W hW
      clear hW
      go_simp
    simp only [Act.put, List.setIfInBounds_toArray, List.set_cons_zero, List.set_cons_succ]
    have hrd := HH.out.1.step (Step.of_below H1.out S)
    have hin : i ≤ es.length := by have := HH.out.2.2.2.1; omega
    have hin1 : i ≤ es.length := by have := HH.out.2.2.2.1; omega
    have h1 := hrd.upto i hin
    have h2 : Rd kdEn w1 S (.slice (if ec = i then ea else Option.map (fun x => x.add (i * 3)) ea) (n - i) (ec - i)) (es.drop i) := by
      have := hrd.from i hin1
      rw [← HH.out.2.2.2.1] at this
      exact this
    have hke := HH.out.2.2.2.2.1.step (Step.of_below H1.out S)
    have hve := HH.out.2.2.2.2.2.step (Step.of_below H1.out S)
    obtain ⟨da, hda⟩ : ∃ da, da = (if ec = i then ea else Option.map (fun x => x.add (i * 3)) ea) := ⟨_, rfl⟩
    rw [← hda] at h2
    rw [← hda]
    clear hda
    have hSW : ∀ q, S q → q < w1.heap.size := fun q hq => by have := HH.out.2.2.1 q hq; have := HH.out.2.1.size; have := H1.out.size; omega
    have hone : Rd kdEn (w1.alloc (.cells #[.slice ka kn kc, .slice va vn vc, .int .i64 0] 93)).drew S (.slice (some ⟨w1.heap.size, 0, none⟩) 1 1) [⟨key, val, 0⟩] :=
      (rd_lit kdEn w1 93 S hSW [⟨⟨ka, kn, kc⟩, ⟨va, vn, vc⟩, ⟨key, val, 0⟩⟩] _ rfl (fun t ht => by
        rw [List.mem_singleton] at ht
        subst ht
        exact ⟨hke, hve⟩) (by simp) rfl).step (Step.refl S _).drew
    obtain ⟨W2, hW2⟩ : ∃ W2, W2 = (w1.alloc (.cells #[.slice ka kn kc, .slice va vn vc, .int .i64 0] 93)).drew := ⟨_, rfl⟩
    have hb2 : Below W.heap.size W W2 := by rw [hW2]; exact (H1.out.alloc H1.out.size _).drew
    have st2 : Step S w1 W2 S := by rw [hW2]; exact ((Step.refl S w1).alloc _).drew
    rw [← hW2] at hone
    have hSW2 : ∀ q, S q → q < W2.heap.size := fun q hq => Nat.lt_of_lt_of_le (hSW q hq) st2.size
    have hlit : Rd kdEs (W2.alloc (.cells #[.slice ea i ec, .slice (some ⟨w1.heap.size, 0, none⟩) 1 1, .slice da (n - i) (ec - i)] 83)) S (.slice (some ⟨W2.heap.size, 0, none⟩) 3 3) [es.take i, [⟨key, val, 0⟩], es.drop i] :=
      rd_lit kdEs W2 83 S hSW2 [⟨⟨ea, i, ec⟩, es.take i⟩, ⟨⟨some ⟨w1.heap.size, 0, none⟩, 1, 1⟩, [⟨key, val, 0⟩]⟩, ⟨⟨da, n - i, ec - i⟩, es.drop i⟩] _ rfl (fun t ht => by
        rcases List.mem_cons.1 ht with rfl | ht
        · exact h1.step st2
        · rcases List.mem_cons.1 ht with rfl | ht
          · exact hone
          · rw [List.mem_singleton] at ht
            subst ht
            exact h2.step st2) (by simp) rfl
    have hlenE : lenE ([es.take i, [⟨key, val, 0⟩], es.drop i] : List (List En)) ≤ 2147483648 := by have := HH.out.2.2.2.1; simp [lenE]; omega
    have A := concat_any _ hlit (fun q hq => by have := hSW2 q hq; simp; omega) (by simp) hlenE
    have hb4 : Below W.heap.size W (W2.alloc (.cells #[.slice ea i ec, .slice (some ⟨w1.heap.size, 0, none⟩) 1 1, .slice da (n - i) (ec - i)] 83)) := hb2.alloc hb2.size _
    have H4 := Lib.hid (And.intro (HQ.out _ hb2) (And.intro (HQ.out _ hb4) hb4))
    have HW2 := Lib.hid hW2
    clear hrd hin hin1 h1 h2 hSW hlit hlenE hb4 hS hS1 hke hve hone st2 hSW2 hb2 hW2
    refine next_till 7 (by kernel_rfl) rfl (fun K hK => ?_)
    go_simp
    rw [← HW2.out]
    refine hK.out _ _ (fun _ => H4.out.1) ?_
    clear hK K
    refine next_till 12 (by kernel_rfl) rfl (fun K hK => ?_)
    go_simp
    refine hK.out _ _ (fun _ => H4.out.2.1) ?_
    clear hK K
    refine next_till 13 (by kernel_rfl) rfl (fun K hK => ?_)
    go_simp
    refine A.mono ?_
    rintro e w2 ⟨v, rfl, hv, hb2, _⟩
    have hb5 := H4.out.2.2.trans (hb2.mono H4.out.2.2.size)
    have hs5 := HQ.out _ hb5
    refine hK.out _ _ (fun _ => hs5) ?_
    clear hK K A
    have hflat : ([es.take i, [⟨key, val, 0⟩], es.drop i] : List (List En)).flatten = es.take i ++ ⟨key, val, 0⟩ :: es.drop i := by simp
    rw [hflat] at hv
    have H5 := Lib.hid (And.intro hv hb5)
    clear hv hb2 hflat hb5
    refine next_till 14 (by kernel_rfl) rfl (fun K hK => ?_)
    go_simp
    refine hK.out _ _ (fun _ => hs5) ?_
    clear hK K
    refine next_till 15 (by kernel_rfl) rfl (fun K hK => ?_)
    go_simp
    refine hK.out _ _ (fun _ => hs5) ?_
    clear hK K
    refine done_till (by kernel_rfl) ?_ _
    go_wp2
    go_ret2
    exact ⟨_, rfl, H5.out.1, HH.out.2.1.trans (H5.out.2.mono HH.out.2.1.size)⟩
  | true =>
    rw [hfi] at F
    have hlt := hfis hfi
    clear hfi hfis
    go_enter Tryz.func67, Tryz.ntmps67
    go_wp2_with fail
    refine F.mono ?_
    rintro e w1 ⟨rfl, hb1⟩
    clear F
    rw [← hW] at hb1
    have hS1 := HQ.out w1 hb1
    have H1 := Lib.hid hb1
    clear hb1 hW qk
    have hwr : IntKind.i64.wrap ((i : Int) + 1) = (i : Int) + 1 := IntWalk.i64_in _ (by omega)
    have hi1 : (i : Int) + 1 ≤ (n : Int) := by omega
    have hi2 : (i : Int) ≤ (ec : Int) := by omega
    have hi3 : (n : Int) ≤ (ec : Int) := by omega
    have hi4 : (0 : Int) ≤ (i : Int) := by omega
    have hi6 : ¬ (i : Int) + 1 < 0 := by omega
    go_wp2_with fail
    have HX := Lib.hid (fun (W1 : World) (hW1 : W1.cell? ⟨w.heap.size, 2, none⟩ = some (.slice ea n ec) ∧ W1.cell? ⟨kb, 0, none⟩ = some (.slice ka kn kc) ∧ W1.cell? ⟨vb, 0, none⟩ = some (.slice va vn vc)) => hW1)
    refine region_till 99 (fun W1 => W1.cell? ⟨w.heap.size, 2, none⟩ = some (.slice ea n ec) ∧ W1.cell? ⟨kb, 0, none⟩ = some (.slice ka kn kc) ∧ W1.cell? ⟨vb, 0, none⟩ = some (.slice va vn vc)) (by kernel_rfl) hS1 (fun hS => ?_)
    refine take_till (i := 0) (some 18) (.pointer (some ⟨w.heap.size, 2, none⟩)) rfl rfl (by kernel_rfl) (by kernel_rfl) (by kernel_rfl) (by kernel_rfl) (by decide) (fun _ _ _ h => h) (by rfl) (fun W hW => ?_) hS ?_
    · have hx := HX.out W hW
      clear hW
      go_simp
    simp only [Act.put, List.setIfInBounds_toArray, List.set_cons_zero, List.set_cons_succ]
    refine take_till (i := 1) (some 19) (.slice ea n ec) rfl rfl (by kernel_rfl) (by kernel_rfl) (by kernel_rfl) (by kernel_rfl) (by decide) (fun _ _ _ h => h) (by rfl) (fun W hW => ?_) hS ?_
    · have hx := HX.out W hW
      clear hW
      go_simp
    simp only [Act.put, List.setIfInBounds_toArray, List.set_cons_zero, List.set_cons_succ]
    refine take_till (i := 2) (some 20) (.int .i64 (i : Int)) rfl rfl (by kernel_rfl) (by kernel_rfl) (by kernel_rfl) (by kernel_rfl) (by decide) (fun _ _ _ h => h) (by rfl) (fun W hW => ?_) hS ?_
    · have hx := HX.out W hW
      clear hW
      go_simp
    simp only [Act.put, List.setIfInBounds_toArray, List.set_cons_zero, List.set_cons_succ]
    refine take_till (i := 3) (some 21) (.slice ea i ec) rfl rfl (by kernel_rfl) (by kernel_rfl) (by kernel_rfl) (by kernel_rfl) (by decide) (fun _ _ _ h => h) (by rfl) (fun W hW => ?_) hS ?_
    · have hx := HX.out W hW
      clear hW
      go_simp
    simp only [Act.put, List.setIfInBounds_toArray, List.set_cons_zero, List.set_cons_succ]
    refine take_till (i := 4) (some 22) (.slice ka kn kc) rfl rfl (by kernel_rfl) (by kernel_rfl) (by kernel_rfl) (by kernel_rfl) (by decide) (fun _ _ _ h => h) (by rfl) (fun W hW => ?_) hS ?_
    · have hx := HX.out W hW
      clear hW
      go_simp
    simp only [Act.put, List.setIfInBounds_toArray, List.set_cons_zero, List.set_cons_succ]
    refine take_till (i := 5) (some 23) (.slice va vn vc) rfl rfl (by kernel_rfl) (by kernel_rfl) (by kernel_rfl) (by kernel_rfl) (by decide) (fun _ _ _ h => h) (by rfl) (fun W hW => ?_) hS ?_
    · have hx := HX.out W hW
      clear hW
      go_simp
    simp only [Act.put, List.setIfInBounds_toArray, List.set_cons_zero, List.set_cons_succ]
    refine take_till (i := 6) (some 24) (.agg #[.slice ka kn kc, .slice va vn vc, .int .i64 0]) rfl rfl (by kernel_rfl) (by kernel_rfl) (by kernel_rfl) (by kernel_rfl) (by decide) (fun _ _ _ h => h) (by rfl) (fun W hW => ?_) hS ?_
    · have hx := HX.out W hW
      clear hW
      go_simp
    simp only [Act.put, List.setIfInBounds_toArray, List.set_cons_zero, List.set_cons_succ]
    refine take_till (i := 8) (some 26) (.pointer (some ⟨w.heap.size, 2, none⟩)) rfl rfl (by kernel_rfl) (by kernel_rfl) (by kernel_rfl) (by kernel_rfl) (by decide) (fun _ _ _ h => h) (by rfl) (fun W hW => ?_) hS ?_
    · have hx := HX.out W hW
      clear hW
      go_simp
    simp only [Act.put, List.setIfInBounds_toArray, List.set_cons_zero, List.set_cons_succ]
    refine take_till (i := 9) (some 27) (.slice ea n ec) rfl rfl (by kernel_rfl) (by kernel_rfl) (by kernel_rfl) (by kernel_rfl) (by decide) (fun _ _ _ h => h) (by rfl) (fun W hW => ?_) hS ?_
    · have hx := HX.out W hW
      clear hW
      go_simp
    simp only [Act.put, List.setIfInBounds_toArray, List.set_cons_zero, List.set_cons_succ]
    refine take_till (i := 10) (some 28) (.int .i64 ((i : Int) + 1)) rfl rfl (by kernel_rfl) (by kernel_rfl) (by kernel_rfl) (by kernel_rfl) (by decide) (fun _ _ _ h => h) (by rfl) (fun W hW => ?_) hS ?_
    · have hx := HX.out W hW
      clear hW
      go_simp
    simp only [Act.put, List.setIfInBounds_toArray, List.set_cons_zero, List.set_cons_succ]
    refine take_till (i := 11) (some 29) (.slice (if ec = i + 1 then ea else Option.map (fun x => x.add ((i + 1) * 3)) ea) (n - (i + 1)) (ec - (i + 1))) rfl rfl (by kernel_rfl) (by kernel_rfl) (by kernel_rfl) (by kernel_rfl) (by decide) (fun _ _ _ h => h) (by rfl) (fun W hW => ?_) hS ?_
    · have hx := HX.out W hW
      clear hW
      go_simp
    simp only [Act.put, List.setIfInBounds_toArray, List.set_cons_zero, List.set_cons_succ]
    have hrd := HH.out.1.step (Step.of_below H1.out S)
    have hin : i ≤ es.length := by have := HH.out.2.2.2.1; omega
    have hin1 : i + 1 ≤ es.length := by have := HH.out.2.2.2.1; omega
    have h1 := hrd.upto i hin
    have h2 : Rd kdEn w1 S (.slice (if ec = i + 1 then ea else Option.map (fun x => x.add ((i + 1) * 3)) ea) (n - (i + 1)) (ec - (i + 1))) (es.drop (i + 1)) := by
      have := hrd.from (i + 1) hin1
      rw [← HH.out.2.2.2.1] at this
      exact this
    have hke := HH.out.2.2.2.2.1.step (Step.of_below H1.out S)
    have hve := HH.out.2.2.2.2.2.step (Step.of_below H1.out S)
    obtain ⟨da, hda⟩ : ∃ da, da = (if ec = i + 1 then ea else Option.map (fun x => x.add ((i + 1) * 3)) ea) := ⟨_, rfl⟩
    rw [← hda] at h2
    rw [← hda]
    clear hda
    have hSW : ∀ q, S q → q < w1.heap.size := fun q hq => by have := HH.out.2.2.1 q hq; have := HH.out.2.1.size; have := H1.out.size; omega
    have hone : Rd kdEn (w1.alloc (.cells #[.slice ka kn kc, .slice va vn vc, .int .i64 0] 93)).drew S (.slice (some ⟨w1.heap.size, 0, none⟩) 1 1) [⟨key, val, 0⟩] :=
      (rd_lit kdEn w1 93 S hSW [⟨⟨ka, kn, kc⟩, ⟨va, vn, vc⟩, ⟨key, val, 0⟩⟩] _ rfl (fun t ht => by
        rw [List.mem_singleton] at ht
        subst ht
        exact ⟨hke, hve⟩) (by simp) rfl).step (Step.refl S _).drew
    obtain ⟨W2, hW2⟩ : ∃ W2, W2 = (w1.alloc (.cells #[.slice ka kn kc, .slice va vn vc, .int .i64 0] 93)).drew := ⟨_, rfl⟩
    have hb2 : Below W.heap.size W W2 := by rw [hW2]; exact (H1.out.alloc H1.out.size _).drew
    have st2 : Step S w1 W2 S := by rw [hW2]; exact ((Step.refl S w1).alloc _).drew
    rw [← hW2] at hone
    have hSW2 : ∀ q, S q → q < W2.heap.size := fun q hq => Nat.lt_of_lt_of_le (hSW q hq) st2.size
    have hlit : Rd kdEs (W2.alloc (.cells #[.slice ea i ec, .slice (some ⟨w1.heap.size, 0, none⟩) 1 1, .slice da (n - (i + 1)) (ec - (i + 1))] 83)) S (.slice (some ⟨W2.heap.size, 0, none⟩) 3 3) [es.take i, [⟨key, val, 0⟩], es.drop (i + 1)] :=
      rd_lit kdEs W2 83 S hSW2 [⟨⟨ea, i, ec⟩, es.take i⟩, ⟨⟨some ⟨w1.heap.size, 0, none⟩, 1, 1⟩, [⟨key, val, 0⟩]⟩, ⟨⟨da, n - (i + 1), ec - (i + 1)⟩, es.drop (i + 1)⟩] _ rfl (fun t ht => by
        rcases List.mem_cons.1 ht with rfl | ht
        · exact h1.step st2
        · rcases List.mem_cons.1 ht with rfl | ht
          · exact hone
          · rw [List.mem_singleton] at ht
            subst ht
            exact h2.step st2) (by simp) rfl
    have hlenE : lenE ([es.take i, [⟨key, val, 0⟩], es.drop (i + 1)] : List (List En)) ≤ 2147483648 := by have := HH.out.2.2.2.1; simp [lenE]; omega
    have A := concat_any _ hlit (fun q hq => by have := hSW2 q hq; simp; omega) (by simp) hlenE
    have hb4 : Below W.heap.size W (W2.alloc (.cells #[.slice ea i ec, .slice (some ⟨w1.heap.size, 0, none⟩) 1 1, .slice da (n - (i + 1)) (ec - (i + 1))] 83)) := hb2.alloc hb2.size _
    have H4 := Lib.hid (And.intro (HQ.out _ hb2) (And.intro (HQ.out _ hb4) hb4))
    have HW2 := Lib.hid hW2
    clear hrd hin hin1 h1 h2 hSW hlit hlenE hb4 hS hS1 hke hve hone st2 hSW2 hb2 hW2
    refine next_till 7 (by kernel_rfl) rfl (fun K hK => ?_)
    go_simp
    rw [← HW2.out]
    refine hK.out _ _ (fun _ => H4.out.1) ?_
    clear hK K
    refine next_till 12 (by kernel_rfl) rfl (fun K hK => ?_)
    go_simp
    refine hK.out _ _ (fun _ => H4.out.2.1) ?_
    clear hK K
    refine next_till 13 (by kernel_rfl) rfl (fun K hK => ?_)
    go_simp
    refine A.mono ?_
    rintro e w2 ⟨v, rfl, hv, hb2, _⟩
    have hb5 := H4.out.2.2.trans (hb2.mono H4.out.2.2.size)
    have hs5 := HQ.out _ hb5
    refine hK.out _ _ (fun _ => hs5) ?_
    clear hK K A
    have hflat : ([es.take i, [⟨key, val, 0⟩], es.drop (i + 1)] : List (List En)).flatten = es.take i ++ ⟨key, val, 0⟩ :: es.drop (i + 1) := by simp
    rw [hflat] at hv
    have H5 := Lib.hid (And.intro hv hb5)
    clear hv hb2 hflat hb5
    refine next_till 14 (by kernel_rfl) rfl (fun K hK => ?_)
    go_simp
    refine hK.out _ _ (fun _ => hs5) ?_
    clear hK K
    refine next_till 15 (by kernel_rfl) rfl (fun K hK => ?_)
    go_simp
    refine hK.out _ _ (fun _ => hs5) ?_
    clear hK K
    refine done_till (by kernel_rfl) ?_ _
    go_wp2
    go_ret2
    exact ⟨_, rfl, H5.out.1, HH.out.2.1.trans (H5.out.2.mono HH.out.2.1.size)⟩
end Go.Proofs.YtgekeemhbnhelaaGreat
