/- The document's Over and Flows; no condition. -/
import Derived.Test.YtmdjgkclbjbdiaaNtRefW
namespace Go.Proofs.Ytmdjgkclbjbdiaa
open Go.RowKit

/-- The row while node v is summed, behind i edges. -/
def rowF (ls : Load) (v i m : Nat) : List Int := (List.range m).map fun u => if u < v then ovr ls (u : Int) else if u = v then ovr (ls.take i) (v : Int) else 0
theorem rowF_length (ls : Load) (v i m : Nat) : (rowF ls v i m).length = m := by simp [rowF]
theorem rowF_get {ls : Load} {v i m u : Nat} (h : u < m) : (rowF ls v i m)[u]? = some (if u < v then ovr ls (u : Int) else if u = v then ovr (ls.take i) (v : Int) else 0) := by
  unfold rowF
  rw [List.getElem?_map, List.getElem?_range h]
  rfl
theorem rowF_at {ls : Load} {v i m : Nat} (h : v < m) : (rowF ls v i m)[v]? = some (ovr (ls.take i) (v : Int)) := by
  rw [rowF_get h, if_neg (Nat.lt_irrefl v), if_pos rfl]
theorem rowF_ext {ls ls' : Load} {v i v' i' m : Nat} (h : ∀ u, u < m → (if u < v then ovr ls (u : Int) else if u = v then ovr (ls.take i) (v : Int) else 0) = (if u < v' then ovr ls' (u : Int) else if u = v' then ovr (ls'.take i') (v' : Int) else 0)) : rowF ls v i m = rowF ls' v' i' m := by
  unfold rowF
  exact List.map_congr_left fun u hu => h u (List.mem_range.1 hu)
theorem rowF_start (ls : Load) (m : Nat) : rowF ls 0 0 m = List.replicate m 0 := by
  apply List.ext_getElem?
  intro u
  rcases Nat.lt_or_ge u m with h | h
  · rw [rowF_get h, List.getElem?_replicate, if_pos h, if_neg (by omega)]
    split
    · simp [ovr]
    · rfl
  · rw [List.getElem?_eq_none (by rw [rowF_length]; exact h), List.getElem?_eq_none (by simpa using h)]
theorem rowF_next {ls : Load} {v i m : Nat} (hi : ls.length ≤ i) : rowF ls v i m = rowF ls (v + 1) 0 m := by
  refine rowF_ext fun u _ => ?_
  rw [List.take_of_length_le hi]
  by_cases h1 : u < v
  · rw [if_pos h1, if_pos (by omega)]
  · rw [if_neg h1]
    by_cases h2 : u = v
    · subst h2
      rw [if_pos rfl, if_pos (by omega)]
    · rw [if_neg h2, if_neg (by omega)]
      split
      · simp [ovr]
      · rfl
theorem rowF_end {ls : Load} {m : Nat} : rowF ls m 0 m = overL (m : Int) ls := by
  unfold rowF overL
  rw [Int.toNat_natCast]
  exact List.map_congr_left fun u hu => by rw [if_pos (List.mem_range.1 hu)]
theorem rowF_set {ls : Load} {v i m : Nat} : (rowF ls v i m).set v (ovr (ls.take (i + 1)) (v : Int)) = rowF ls v (i + 1) m := by
  apply List.ext_getElem?
  intro u
  rcases Nat.lt_or_ge u m with h | h
  · rw [List.getElem?_set, rowF_length, rowF_get h, rowF_get h]
    by_cases h1 : v = u
    · subst h1
      simp [h]
    · have h2 : ¬ u = v := fun e => h1 e.symm
      simp [h1, h2]
  · rw [List.getElem?_eq_none (by simp [rowF_length, h]), List.getElem?_eq_none (by rw [rowF_length]; exact h)]
theorem rowF_same {ls : Load} {v i m : Nat} (h : ovr (ls.take (i + 1)) (v : Int) = ovr (ls.take i) (v : Int)) : rowF ls v i m = rowF ls v (i + 1) m := by
  refine rowF_ext fun u _ => ?_
  rw [h]

set_option maxRecDepth 100000 in
set_option maxHeartbeats 8000000 in
theorem rover_any (n : Int) (es : List Ed) (fl : List Int) (w : World) {v x : Value} (he : Es w v es) (hf : Fs w x fl) :
    Calls Try.prog 23 #[netV n v, x] w fun e w' => ∃ r, e = .returned r ∧ Fs w' r (overP n es fl) ∧ Below w.heap.size w w' := by
  obtain ⟨va, vc, rfl, -, -⟩ := he.shape
  obtain ⟨xa, xc, rfl, -, -⟩ := hf.shape
  obtain ⟨Z, hZ⟩ : ∃ Z, Z = overP n es fl := ⟨_, rfl⟩
  have hZn : ¬ WithinP n es fl → Z = [] := fun h => by rw [hZ]; unfold overP; rw [if_neg h]
  have hZy : WithinP n es fl → Z = overL n (es.zip fl) := fun h => by rw [hZ]; unfold overP; rw [if_pos h]
  rw [← hZ]
  have HZ := Lib.hid (And.intro hZn hZy)
  clear hZ hZn hZy
  have hK := NQ.box n he (fls := [(.slice xa fl.length xc, fl)]) (fun p hp => by rw [List.mem_singleton.1 hp]; exact hf)
  have P := rwithin_any n es fl _ hK.es (hK.fl (.slice xa fl.length xc, fl) (by simp))
  obtain ⟨n0, n1⟩ := hK.net.net
  have HK := Lib.hid hK
  have HO := Lib.hid (And.intro he hf)
  clear he hf hK
  go_enter Try.func23, Try.ntmps23
  go_wp2_with fail
  generalize w.alloc (.cells #[.int .i64 n, .slice va es.length vc] 24) = w1 at *
  refine P.mono ?_
  rintro e w2 ⟨rfl, bl⟩
  have h2 := HK.out.go bl
  clear P HK bl n0 n1
  by_cases hw : WithinP n es fl
  case neg =>
    rw [decide_eq_false hw]
    obtain rfl := HZ.out.1 hw
    have HN := Lib.hid (And.intro hw h2)
    clear hw h2
    go_wp2
    go_ret
    exact ⟨_, rfl, Rd.nil _ _ _, HN.out.2.under⟩
  rw [decide_eq_true hw]
  have hZ := HZ.out.2 hw
  obtain ⟨m, rfl⟩ : ∃ m : Nat, n = (m : Int) := ⟨n.toNat, by have := hw.1.1; omega⟩
  have hm : m ≤ 40 := by have := hw.1.2.1; omega
  obtain ⟨w3, hmk, cB, b3⟩ := make_ints m w2 hm
  obtain ⟨M, hM⟩ : ∃ M, M = fl.length := ⟨_, rfl⟩
  have hL : es.length = M := by rw [hM]; exact hw.2.1.symm
  have h3 := h2.go b3
  have hcn : w.heap.size ≠ w2.heap.size := fun e => by have := h2.net.lt; omega
  have hwB : w.heap.size ≤ w2.heap.size := h2.under.size
  have heB : Rd kdEd w3 (fun q => q = w2.heap.size) (.slice va es.length vc) es := HO.out.1.wide h3.under (fun q hq => by omega)
  have hfB : Rd kdI w3 (fun q => q = w2.heap.size) (.slice xa fl.length xc) fl := HO.out.2.wide h3.under (fun q hq => by omega)
  rw [hL] at heB
  rw [← hM] at hfB
  obtain ⟨n0, n1⟩ := h2.net.net
  have c3 := h3.net
  have hM200 : M ≤ 200 := by rw [← hL]; exact hw.1.2.2.1
  rw [hL] at n1 c3
  rw [← hM, hL]
  have H0 := Lib.hid (And.intro hw (And.intro hZ (And.intro (And.intro hM hL) (And.intro hm (And.intro cB (And.intro h3.under (And.intro hcn (And.intro hwB (And.intro heB (And.intro hfB c3))))))))))
  clear HZ HO hw hZ hM hL hm cB h3 h2 hcn hwB heB hfB b3 c3
  obtain ⟨n0', n1'⟩ := H0.out.2.2.2.2.2.2.2.2.2.2.net
  go_wp2
  generalize w2.heap.size = B at *
  go_loopw [6, 7] (fun jv _ wr => ∃ v : Nat, jv = .int .i64 (v : Int) ∧ v ≤ m ∧ Only (fun q => q = B) w3 wr ∧ Cel wr B (ivL (rowF (es.zip fl) v 0 m)) 2) (fun jv _ _ => m - (intOf jv).toNat)
  case atStart => exact ⟨0, rfl, Nat.zero_le _, Only.refl _ _, by rw [rowF_start]; exact H0.out.2.2.2.2.1⟩
  case round =>
    clear n0 n1 n0' n1'
    obtain ⟨v, rfl, hv, ho, hc⟩ := hrel
    obtain ⟨n0, n1⟩ := (H0.out.2.2.2.2.2.2.2.2.2.2.only ho H0.out.2.2.2.2.2.2.1).net
    rcases Nat.lt_or_ge v m with hvl | hvg
    · have hvi : (v : Int) < (m : Int) := by omega
      have hm40 : m ≤ 40 := H0.out.2.2.2.1
      have hv1 : (v : Int) ≤ 9223372036854775806 := by omega
      have hv0 : (0 : Int) ≤ (v : Int) := by omega
      have HV := Lib.hid (And.intro hvl (And.intro ho hc))
      clear hvl ho hc hv
      go_wp2
      clear n0 n1
      go_loopw [7] (fun j wr => ∃ i : Nat, j = .int .i64 (i : Int) ∧ i ≤ M ∧ Only (fun q => q = B) w3 wr ∧ Cel wr B (ivL (rowF (es.zip fl) v i m)) 2) (fun j _ => M - (intOf j).toNat)
      case atStart => exact ⟨0, rfl, Nat.zero_le _, HV.out.2⟩
      case round =>
        obtain ⟨i, rfl, hi, ho, hc⟩ := hrel
        rcases Nat.lt_or_ge i M with hil | hig
        · obtain ⟨e, hek⟩ : ∃ e, es[i]? = some e := ⟨_, List.getElem?_eq_getElem (by have := H0.out.2.2.1.2; omega)⟩
          obtain ⟨f, hfk⟩ : ∃ f, fl[i]? = some f := ⟨_, List.getElem?_eq_getElem (by have := H0.out.2.2.1.1; omega)⟩
          have hz := zip_get hek hfk
          obtain ⟨-, -, -, -, -, -, hcn, -, heB, hfB, c3⟩ := H0.out
          obtain ⟨g, o, cap, e0, -, -⟩ := es_at heB hek
          obtain ⟨g2, o2, cap2, e2, -, -⟩ := fs_at hfB hfk
          rw [H0.out.2.2.1.2] at e0
          rw [← H0.out.2.2.1.1] at e2
          simp only [Value.slice.injEq] at e0 e2
          obtain ⟨rfl, -, rfl⟩ := e0
          obtain ⟨rfl, -, rfl⟩ := e2
          have FACT : ∀ W, Only (fun q => q = B) w3 W → (W.cell? ⟨w.heap.size, 0, none⟩ = some (.int .i64 (m : Int)) ∧ W.cell? ⟨w.heap.size, 1, none⟩ = some (.slice (some ⟨g, o, none⟩) M vc)) ∧ (W.cell? ⟨g, o + i * 4, none⟩ = some (.int .i64 e.fr) ∧ W.cell? ⟨g, o + i * 4 + 1, none⟩ = some (.int .i64 e.to)) ∧ W.cell? ⟨g2, o2 + i, none⟩ = some (.int .i64 f) := by
            intro W hW
            obtain ⟨g', o', cap', e0, hg, f0, f1, f2, f3⟩ := es_at (heB.only hW) hek
            obtain ⟨g2', o2', cap2', e2, hg2, y0⟩ := fs_at (hfB.only hW) hfk
            simp only [Value.slice.injEq, Option.some.injEq, Addr.mk.injEq] at e0 e2
            obtain ⟨⟨rfl, rfl, -⟩, -, -⟩ := e0
            obtain ⟨⟨rfl, rfl, -⟩, -, -⟩ := e2
            exact ⟨(c3.only hW hcn).net, ⟨f0, f1⟩, y0⟩
          have hls : ∀ p ∈ es.zip fl, SmallT p := zip_small H0.out.1.1.2.2.2.1 H0.out.1.2.2
          have hlen : (es.zip fl).length ≤ 200 := by rw [List.length_zip, H0.out.2.2.1.2]; omega
          have hb1 := ovr_take_le hls hlen i v
          have hst := ovr_take hz v
          have hf1 := (hls _ (List.mem_of_getElem? hz)).1
          have hf2 := (hls _ (List.mem_of_getElem? hz)).2.1
          simp only at hf1 hf2
          unfold ovT at hst
          simp only at hst
          have hii : (i : Int) < (M : Int) := by omega
          have hi1 : (i : Int) ≤ 9223372036854775806 := by omega
          have hi0 : (0 : Int) ≤ (i : Int) := by omega
          have cx : ∀ W, Cel W B (ivL (rowF (es.zip fl) v i m)) 2 → W.cell? ⟨B, v, none⟩ = some (.int .i64 (ovr ((es.zip fl).take i) v)) := fun W hW => by rw [hW.cell]; exact ivL_at (rowF_at HV.out.1)
          obtain ⟨x, hx⟩ : ∃ x, x = ovr ((es.zip fl).take i) (v : Int) := ⟨_, rfl⟩
          have cx0 := cx wr hc
          rw [← hx] at cx0 hst hb1
          have hrs := rowF_set (ls := es.zip fl) (v := v) (i := i) (m := m)
          have hrsame := rowF_same (ls := es.zip fl) (v := v) (i := i) (m := m)
          rw [hst] at hrs
          rw [hst, ← hx] at hrsame
          obtain ⟨⟨n0, n1⟩, ⟨q0, q1⟩, y0⟩ := FACT wr ho
          have HFA := Lib.hid FACT
          have HI := Lib.hid (And.intro hil (And.intro ho hc))
          have hilH := Lib.hid hil
          have hfr := hc.frozen v
          clear FACT hcn heB hfB c3 hil ho hc hek hfk hz cx hx hls hlen hst hi
          by_cases ht : e.to = (v : Int)
          · have hti : (e.to == (v : Int)) = true := by simpa using ht
            rw [if_pos ht] at hrs hrsame
            have HTT := Lib.hid ht
            clear ht
            go_wp2
            have HX := Lib.hid (fun (W : World) (hW : W.heap = wr.heap) => (And.intro (show W.cell? ⟨B, v, none⟩ = some (.int .i64 x) from (World.cell?_of_block (w := wr) (by rw [hW])).trans cx0) (And.intro (show W.cell? ⟨g2, o2 + i, none⟩ = some (.int .i64 f) from (World.cell?_of_block (w := wr) (by rw [hW])).trans y0) (show W.frozen? ⟨B, v, none⟩ = false from (World.frozen?_of_block (w := wr) (by rw [hW])).trans hfr))))
            refine region_till 12 (fun W => W.heap = wr.heap) (by kernel_rfl) rfl (fun hS => ?_)
            skip
            refine take_till (i := 0) (some 35) (.slice (some ⟨B, 0, none⟩) m m) rfl rfl (by kernel_rfl) (by kernel_rfl) (by kernel_rfl) (by kernel_rfl) (by decide) (fun _ _ _ h => h) (by rfl) (fun W hW => ?_) hS ?_
            · obtain ⟨x0, x1, x2⟩ := HX.out W hW
              clear hW
              go_simp
            simp only [Act.put, List.setIfInBounds_toArray, List.set_cons_zero, List.set_cons_succ]
            refine take_till (i := 1) (some 36) (.int .i64 (v : Int)) rfl rfl (by kernel_rfl) (by kernel_rfl) (by kernel_rfl) (by kernel_rfl) (by decide) (fun _ _ _ h => h) (by rfl) (fun W hW => ?_) hS ?_
            · obtain ⟨x0, x1, x2⟩ := HX.out W hW
              clear hW
              go_simp
            simp only [Act.put, List.setIfInBounds_toArray, List.set_cons_zero, List.set_cons_succ]
            refine take_till (i := 2) (some 37) (.slice (some ⟨B, 0, none⟩) m m) rfl rfl (by kernel_rfl) (by kernel_rfl) (by kernel_rfl) (by kernel_rfl) (by decide) (fun _ _ _ h => h) (by rfl) (fun W hW => ?_) hS ?_
            · obtain ⟨x0, x1, x2⟩ := HX.out W hW
              clear hW
              go_simp
            simp only [Act.put, List.setIfInBounds_toArray, List.set_cons_zero, List.set_cons_succ]
            refine take_till (i := 3) (some 38) (.int .i64 (v : Int)) rfl rfl (by kernel_rfl) (by kernel_rfl) (by kernel_rfl) (by kernel_rfl) (by decide) (fun _ _ _ h => h) (by rfl) (fun W hW => ?_) hS ?_
            · obtain ⟨x0, x1, x2⟩ := HX.out W hW
              clear hW
              go_simp
            simp only [Act.put, List.setIfInBounds_toArray, List.set_cons_zero, List.set_cons_succ]
            refine take_till (i := 4) (some 39) (.pointer (some ⟨B, v, none⟩)) rfl rfl (by kernel_rfl) (by kernel_rfl) (by kernel_rfl) (by kernel_rfl) (by decide) (fun _ _ _ h => h) (by rfl) (fun W hW => ?_) hS ?_
            · obtain ⟨x0, x1, x2⟩ := HX.out W hW
              clear hW
              go_simp
            simp only [Act.put, List.setIfInBounds_toArray, List.set_cons_zero, List.set_cons_succ]
            refine take_till (i := 5) (some 40) (.int .i64 x) rfl rfl (by kernel_rfl) (by kernel_rfl) (by kernel_rfl) (by kernel_rfl) (by decide) (fun _ _ _ h => h) (by rfl) (fun W hW => ?_) hS ?_
            · obtain ⟨x0, x1, x2⟩ := HX.out W hW
              clear hW
              go_simp
            simp only [Act.put, List.setIfInBounds_toArray, List.set_cons_zero, List.set_cons_succ]
            refine take_till (i := 6) (some 41) (.slice (some ⟨g2, o2, none⟩) M xc) rfl rfl (by kernel_rfl) (by kernel_rfl) (by kernel_rfl) (by kernel_rfl) (by decide) (fun _ _ _ h => h) (by rfl) (fun W hW => ?_) hS ?_
            · obtain ⟨x0, x1, x2⟩ := HX.out W hW
              clear hW
              go_simp
            simp only [Act.put, List.setIfInBounds_toArray, List.set_cons_zero, List.set_cons_succ]
            refine take_till (i := 7) (some 42) (.int .i64 (i : Int)) rfl rfl (by kernel_rfl) (by kernel_rfl) (by kernel_rfl) (by kernel_rfl) (by decide) (fun _ _ _ h => h) (by rfl) (fun W hW => ?_) hS ?_
            · obtain ⟨x0, x1, x2⟩ := HX.out W hW
              clear hW
              go_simp
            simp only [Act.put, List.setIfInBounds_toArray, List.set_cons_zero, List.set_cons_succ]
            refine take_till (i := 8) (some 43) (.pointer (some ⟨g2, o2 + i, none⟩)) rfl rfl (by kernel_rfl) (by kernel_rfl) (by kernel_rfl) (by kernel_rfl) (by decide) (fun _ _ _ h => h) (by rfl) (fun W hW => ?_) hS ?_
            · obtain ⟨x0, x1, x2⟩ := HX.out W hW
              clear hW
              go_simp
            simp only [Act.put, List.setIfInBounds_toArray, List.set_cons_zero, List.set_cons_succ]
            refine take_till (i := 9) (some 44) (.int .i64 f) rfl rfl (by kernel_rfl) (by kernel_rfl) (by kernel_rfl) (by kernel_rfl) (by decide) (fun _ _ _ h => h) (by rfl) (fun W hW => ?_) hS ?_
            · obtain ⟨x0, x1, x2⟩ := HX.out W hW
              clear hW
              go_simp
            simp only [Act.put, List.setIfInBounds_toArray, List.set_cons_zero, List.set_cons_succ]
            refine take_till (i := 10) (some 45) (.int .i64 (x + f)) rfl rfl (by kernel_rfl) (by kernel_rfl) (by kernel_rfl) (by kernel_rfl) (by decide) (fun _ _ _ h => h) (by rfl) (fun W hW => ?_) hS ?_
            · obtain ⟨x0, x1, x2⟩ := HX.out W hW
              clear hW
              go_simp
              exact IntWalk.i64_in _ (by omega)
            simp only [Act.put, List.setIfInBounds_toArray, List.set_cons_zero, List.set_cons_succ]
            refine take_till (i := 11) (some 46) (.pointer (some ⟨B, v, none⟩)) rfl rfl (by kernel_rfl) (by kernel_rfl) (by kernel_rfl) (by kernel_rfl) (by decide) (fun _ _ _ h => h) (by rfl) (fun W hW => ?_) hS ?_
            · obtain ⟨x0, x1, x2⟩ := HX.out W hW
              clear hW
              go_simp
            simp only [Act.put, List.setIfInBounds_toArray, List.set_cons_zero, List.set_cons_succ]
            obtain ⟨x0, x1, x2⟩ := HX.out _ hS
            have HD := Lib.hid (And.intro (HI.out.2.1.drew.setCell (p := ⟨B, v, none⟩) (.inl rfl) (.int .i64 (x + f))) ((show Cel wr.drew B _ 2 from HI.out.2.2.kept rfl).set v (.int .i64 (x + f))))
            generalize wr.drew = wd at *
            refine next_till 12 (by kernel_rfl) rfl (fun K hK => ?_)
            go_simp
            refine hK.out _ _ (fun e => absurd rfl e) ?_
            clear hK K x0 x1 x2 hS HX
            refine done_till (by kernel_rfl) ?_ _
            generalize wd.setCell ⟨B, v, none⟩ (.int .i64 (x + f)) = W1 at *
            clear n0 n1 q0 q1 y0 cx0 hfr HI
            have hoD := HD.out.1
            have hcD := HD.out.2
            rw [ivL_set] at hcD
            obtain ⟨⟨n0, n1⟩, ⟨q0, q1⟩, y0⟩ := HFA.out W1 hoD
            clear HD
            have cx0 : W1.cell? ⟨B, v, none⟩ = some (.int .i64 (x + f)) := by rw [hcD.cell]; exact ivL_at (by rw [List.getElem?_set_self (by rw [rowF_length]; exact HV.out.1)])
            have hfr := hcD.frozen v
            by_cases hf : e.fr = (v : Int)
            · have hfi : (e.fr == (v : Int)) = true := by simpa using hf
              rw [if_pos hf] at hrs hrsame
              have HFF := Lib.hid hf
              have HI := Lib.hid (And.intro hilH.out (And.intro hoD hcD))
              clear hf hoD hcD
              go_wp2
              have HX := Lib.hid (fun (W : World) (hW : W.heap = W1.heap) => (And.intro (show W.cell? ⟨B, v, none⟩ = some (.int .i64 (x + f)) from (World.cell?_of_block (w := W1) (by rw [hW])).trans cx0) (And.intro (show W.cell? ⟨g2, o2 + i, none⟩ = some (.int .i64 f) from (World.cell?_of_block (w := W1) (by rw [hW])).trans y0) (show W.frozen? ⟨B, v, none⟩ = false from (World.frozen?_of_block (w := W1) (by rw [hW])).trans hfr))))
              refine region_till 12 (fun W => W.heap = W1.heap) (by kernel_rfl) rfl (fun hS => ?_)
              skip
              refine take_till (i := 0) (some 55) (.slice (some ⟨B, 0, none⟩) m m) rfl rfl (by kernel_rfl) (by kernel_rfl) (by kernel_rfl) (by kernel_rfl) (by decide) (fun _ _ _ h => h) (by rfl) (fun W hW => ?_) hS ?_
              · obtain ⟨x0, x1, x2⟩ := HX.out W hW
                clear hW
                go_simp
              simp only [Act.put, List.setIfInBounds_toArray, List.set_cons_zero, List.set_cons_succ]
              refine take_till (i := 1) (some 56) (.int .i64 (v : Int)) rfl rfl (by kernel_rfl) (by kernel_rfl) (by kernel_rfl) (by kernel_rfl) (by decide) (fun _ _ _ h => h) (by rfl) (fun W hW => ?_) hS ?_
              · obtain ⟨x0, x1, x2⟩ := HX.out W hW
                clear hW
                go_simp
              simp only [Act.put, List.setIfInBounds_toArray, List.set_cons_zero, List.set_cons_succ]
              refine take_till (i := 2) (some 57) (.slice (some ⟨B, 0, none⟩) m m) rfl rfl (by kernel_rfl) (by kernel_rfl) (by kernel_rfl) (by kernel_rfl) (by decide) (fun _ _ _ h => h) (by rfl) (fun W hW => ?_) hS ?_
              · obtain ⟨x0, x1, x2⟩ := HX.out W hW
                clear hW
                go_simp
              simp only [Act.put, List.setIfInBounds_toArray, List.set_cons_zero, List.set_cons_succ]
              refine take_till (i := 3) (some 58) (.int .i64 (v : Int)) rfl rfl (by kernel_rfl) (by kernel_rfl) (by kernel_rfl) (by kernel_rfl) (by decide) (fun _ _ _ h => h) (by rfl) (fun W hW => ?_) hS ?_
              · obtain ⟨x0, x1, x2⟩ := HX.out W hW
                clear hW
                go_simp
              simp only [Act.put, List.setIfInBounds_toArray, List.set_cons_zero, List.set_cons_succ]
              refine take_till (i := 4) (some 59) (.pointer (some ⟨B, v, none⟩)) rfl rfl (by kernel_rfl) (by kernel_rfl) (by kernel_rfl) (by kernel_rfl) (by decide) (fun _ _ _ h => h) (by rfl) (fun W hW => ?_) hS ?_
              · obtain ⟨x0, x1, x2⟩ := HX.out W hW
                clear hW
                go_simp
              simp only [Act.put, List.setIfInBounds_toArray, List.set_cons_zero, List.set_cons_succ]
              refine take_till (i := 5) (some 60) (.int .i64 (x + f)) rfl rfl (by kernel_rfl) (by kernel_rfl) (by kernel_rfl) (by kernel_rfl) (by decide) (fun _ _ _ h => h) (by rfl) (fun W hW => ?_) hS ?_
              · obtain ⟨x0, x1, x2⟩ := HX.out W hW
                clear hW
                go_simp
              simp only [Act.put, List.setIfInBounds_toArray, List.set_cons_zero, List.set_cons_succ]
              refine take_till (i := 6) (some 61) (.slice (some ⟨g2, o2, none⟩) M xc) rfl rfl (by kernel_rfl) (by kernel_rfl) (by kernel_rfl) (by kernel_rfl) (by decide) (fun _ _ _ h => h) (by rfl) (fun W hW => ?_) hS ?_
              · obtain ⟨x0, x1, x2⟩ := HX.out W hW
                clear hW
                go_simp
              simp only [Act.put, List.setIfInBounds_toArray, List.set_cons_zero, List.set_cons_succ]
              refine take_till (i := 7) (some 62) (.int .i64 (i : Int)) rfl rfl (by kernel_rfl) (by kernel_rfl) (by kernel_rfl) (by kernel_rfl) (by decide) (fun _ _ _ h => h) (by rfl) (fun W hW => ?_) hS ?_
              · obtain ⟨x0, x1, x2⟩ := HX.out W hW
                clear hW
                go_simp
              simp only [Act.put, List.setIfInBounds_toArray, List.set_cons_zero, List.set_cons_succ]
              refine take_till (i := 8) (some 63) (.pointer (some ⟨g2, o2 + i, none⟩)) rfl rfl (by kernel_rfl) (by kernel_rfl) (by kernel_rfl) (by kernel_rfl) (by decide) (fun _ _ _ h => h) (by rfl) (fun W hW => ?_) hS ?_
              · obtain ⟨x0, x1, x2⟩ := HX.out W hW
                clear hW
                go_simp
              simp only [Act.put, List.setIfInBounds_toArray, List.set_cons_zero, List.set_cons_succ]
              refine take_till (i := 9) (some 64) (.int .i64 f) rfl rfl (by kernel_rfl) (by kernel_rfl) (by kernel_rfl) (by kernel_rfl) (by decide) (fun _ _ _ h => h) (by rfl) (fun W hW => ?_) hS ?_
              · obtain ⟨x0, x1, x2⟩ := HX.out W hW
                clear hW
                go_simp
              simp only [Act.put, List.setIfInBounds_toArray, List.set_cons_zero, List.set_cons_succ]
              refine take_till (i := 10) (some 65) (.int .i64 x) rfl rfl (by kernel_rfl) (by kernel_rfl) (by kernel_rfl) (by kernel_rfl) (by decide) (fun _ _ _ h => h) (by rfl) (fun W hW => ?_) hS ?_
              · obtain ⟨x0, x1, x2⟩ := HX.out W hW
                clear hW
                go_simp
                exact IntWalk.i64_in _ (by omega)
              simp only [Act.put, List.setIfInBounds_toArray, List.set_cons_zero, List.set_cons_succ]
              refine take_till (i := 11) (some 66) (.pointer (some ⟨B, v, none⟩)) rfl rfl (by kernel_rfl) (by kernel_rfl) (by kernel_rfl) (by kernel_rfl) (by decide) (fun _ _ _ h => h) (by rfl) (fun W hW => ?_) hS ?_
              · obtain ⟨x0, x1, x2⟩ := HX.out W hW
                clear hW
                go_simp
              simp only [Act.put, List.setIfInBounds_toArray, List.set_cons_zero, List.set_cons_succ]
              obtain ⟨x0, x1, x2⟩ := HX.out _ hS
              have HD := Lib.hid (And.intro (HI.out.2.1.drew.setCell (p := ⟨B, v, none⟩) (.inl rfl) (.int .i64 x)) ((show Cel W1.drew B _ 2 from HI.out.2.2.kept rfl).set v (.int .i64 x)))
              generalize W1.drew = wd at *
              refine next_till 12 (by kernel_rfl) rfl (fun K hK => ?_)
              go_simp
              refine hK.out _ _ (fun e => absurd rfl e) ?_
              clear hK K x0 x1 x2 hS HX
              refine done_till (by kernel_rfl) ?_ _
              generalize wd.setCell ⟨B, v, none⟩ (.int .i64 x) = W2 at *
              have hcD := HD.out.2
              rw [show x + (f - f) = x by omega] at hrs
              rw [ivL_set, List.set_set, hrs] at hcD
              have HE := Lib.hid (And.intro hilH.out (And.intro HD.out.1 hcD))
              clear n0 n1 q0 q1 y0 cx0 hfr HI HD hcD
              go_wp2
              go_roundw
              case rel => exact ⟨i + 1, by go_num, HE.out.1, HE.out.2.1, HE.out.2.2⟩
              case measure =>
                have := HE.out.1
                simp only [intOf]
                omega
            · have hfi : (e.fr == (v : Int)) = false := by simpa using hf
              rw [if_neg hf, show f - 0 = f by omega] at hrs
              rw [hrs] at hcD
              have HE := Lib.hid (And.intro hilH.out (And.intro hoD hcD))
              have HFF := Lib.hid hf
              clear hf hoD hcD cx0 hfr
              go_wp2
              go_roundw
              case rel => exact ⟨i + 1, by go_num, HE.out.1, HE.out.2.1, HE.out.2.2⟩
              case measure =>
                have := HE.out.1
                simp only [intOf]
                omega
          · have hti : (e.to == (v : Int)) = false := by simpa using ht
            rw [if_neg ht] at hrs hrsame
            have HTT := Lib.hid ht
            clear ht
            by_cases hf : e.fr = (v : Int)
            · have hfi : (e.fr == (v : Int)) = true := by simpa using hf
              rw [if_pos hf] at hrs hrsame
              have HFF := Lib.hid hf
              clear hf
              go_wp2
              have HX := Lib.hid (fun (W : World) (hW : W.heap = wr.heap) => (And.intro (show W.cell? ⟨B, v, none⟩ = some (.int .i64 x) from (World.cell?_of_block (w := wr) (by rw [hW])).trans cx0) (And.intro (show W.cell? ⟨g2, o2 + i, none⟩ = some (.int .i64 f) from (World.cell?_of_block (w := wr) (by rw [hW])).trans y0) (show W.frozen? ⟨B, v, none⟩ = false from (World.frozen?_of_block (w := wr) (by rw [hW])).trans hfr))))
              refine region_till 12 (fun W => W.heap = wr.heap) (by kernel_rfl) rfl (fun hS => ?_)
              skip
              refine take_till (i := 0) (some 55) (.slice (some ⟨B, 0, none⟩) m m) rfl rfl (by kernel_rfl) (by kernel_rfl) (by kernel_rfl) (by kernel_rfl) (by decide) (fun _ _ _ h => h) (by rfl) (fun W hW => ?_) hS ?_
              · obtain ⟨x0, x1, x2⟩ := HX.out W hW
                clear hW
                go_simp
              simp only [Act.put, List.setIfInBounds_toArray, List.set_cons_zero, List.set_cons_succ]
              refine take_till (i := 1) (some 56) (.int .i64 (v : Int)) rfl rfl (by kernel_rfl) (by kernel_rfl) (by kernel_rfl) (by kernel_rfl) (by decide) (fun _ _ _ h => h) (by rfl) (fun W hW => ?_) hS ?_
              · obtain ⟨x0, x1, x2⟩ := HX.out W hW
                clear hW
                go_simp
              simp only [Act.put, List.setIfInBounds_toArray, List.set_cons_zero, List.set_cons_succ]
              refine take_till (i := 2) (some 57) (.slice (some ⟨B, 0, none⟩) m m) rfl rfl (by kernel_rfl) (by kernel_rfl) (by kernel_rfl) (by kernel_rfl) (by decide) (fun _ _ _ h => h) (by rfl) (fun W hW => ?_) hS ?_
              · obtain ⟨x0, x1, x2⟩ := HX.out W hW
                clear hW
                go_simp
              simp only [Act.put, List.setIfInBounds_toArray, List.set_cons_zero, List.set_cons_succ]
              refine take_till (i := 3) (some 58) (.int .i64 (v : Int)) rfl rfl (by kernel_rfl) (by kernel_rfl) (by kernel_rfl) (by kernel_rfl) (by decide) (fun _ _ _ h => h) (by rfl) (fun W hW => ?_) hS ?_
              · obtain ⟨x0, x1, x2⟩ := HX.out W hW
                clear hW
                go_simp
              simp only [Act.put, List.setIfInBounds_toArray, List.set_cons_zero, List.set_cons_succ]
              refine take_till (i := 4) (some 59) (.pointer (some ⟨B, v, none⟩)) rfl rfl (by kernel_rfl) (by kernel_rfl) (by kernel_rfl) (by kernel_rfl) (by decide) (fun _ _ _ h => h) (by rfl) (fun W hW => ?_) hS ?_
              · obtain ⟨x0, x1, x2⟩ := HX.out W hW
                clear hW
                go_simp
              simp only [Act.put, List.setIfInBounds_toArray, List.set_cons_zero, List.set_cons_succ]
              refine take_till (i := 5) (some 60) (.int .i64 x) rfl rfl (by kernel_rfl) (by kernel_rfl) (by kernel_rfl) (by kernel_rfl) (by decide) (fun _ _ _ h => h) (by rfl) (fun W hW => ?_) hS ?_
              · obtain ⟨x0, x1, x2⟩ := HX.out W hW
                clear hW
                go_simp
              simp only [Act.put, List.setIfInBounds_toArray, List.set_cons_zero, List.set_cons_succ]
              refine take_till (i := 6) (some 61) (.slice (some ⟨g2, o2, none⟩) M xc) rfl rfl (by kernel_rfl) (by kernel_rfl) (by kernel_rfl) (by kernel_rfl) (by decide) (fun _ _ _ h => h) (by rfl) (fun W hW => ?_) hS ?_
              · obtain ⟨x0, x1, x2⟩ := HX.out W hW
                clear hW
                go_simp
              simp only [Act.put, List.setIfInBounds_toArray, List.set_cons_zero, List.set_cons_succ]
              refine take_till (i := 7) (some 62) (.int .i64 (i : Int)) rfl rfl (by kernel_rfl) (by kernel_rfl) (by kernel_rfl) (by kernel_rfl) (by decide) (fun _ _ _ h => h) (by rfl) (fun W hW => ?_) hS ?_
              · obtain ⟨x0, x1, x2⟩ := HX.out W hW
                clear hW
                go_simp
              simp only [Act.put, List.setIfInBounds_toArray, List.set_cons_zero, List.set_cons_succ]
              refine take_till (i := 8) (some 63) (.pointer (some ⟨g2, o2 + i, none⟩)) rfl rfl (by kernel_rfl) (by kernel_rfl) (by kernel_rfl) (by kernel_rfl) (by decide) (fun _ _ _ h => h) (by rfl) (fun W hW => ?_) hS ?_
              · obtain ⟨x0, x1, x2⟩ := HX.out W hW
                clear hW
                go_simp
              simp only [Act.put, List.setIfInBounds_toArray, List.set_cons_zero, List.set_cons_succ]
              refine take_till (i := 9) (some 64) (.int .i64 f) rfl rfl (by kernel_rfl) (by kernel_rfl) (by kernel_rfl) (by kernel_rfl) (by decide) (fun _ _ _ h => h) (by rfl) (fun W hW => ?_) hS ?_
              · obtain ⟨x0, x1, x2⟩ := HX.out W hW
                clear hW
                go_simp
              simp only [Act.put, List.setIfInBounds_toArray, List.set_cons_zero, List.set_cons_succ]
              refine take_till (i := 10) (some 65) (.int .i64 (x - f)) rfl rfl (by kernel_rfl) (by kernel_rfl) (by kernel_rfl) (by kernel_rfl) (by decide) (fun _ _ _ h => h) (by rfl) (fun W hW => ?_) hS ?_
              · obtain ⟨x0, x1, x2⟩ := HX.out W hW
                clear hW
                go_simp
                exact IntWalk.i64_in _ (by omega)
              simp only [Act.put, List.setIfInBounds_toArray, List.set_cons_zero, List.set_cons_succ]
              refine take_till (i := 11) (some 66) (.pointer (some ⟨B, v, none⟩)) rfl rfl (by kernel_rfl) (by kernel_rfl) (by kernel_rfl) (by kernel_rfl) (by decide) (fun _ _ _ h => h) (by rfl) (fun W hW => ?_) hS ?_
              · obtain ⟨x0, x1, x2⟩ := HX.out W hW
                clear hW
                go_simp
              simp only [Act.put, List.setIfInBounds_toArray, List.set_cons_zero, List.set_cons_succ]
              obtain ⟨x0, x1, x2⟩ := HX.out _ hS
              have HD := Lib.hid (And.intro (HI.out.2.1.drew.setCell (p := ⟨B, v, none⟩) (.inl rfl) (.int .i64 (x - f))) ((show Cel wr.drew B _ 2 from HI.out.2.2.kept rfl).set v (.int .i64 (x - f))))
              generalize wr.drew = wd at *
              refine next_till 12 (by kernel_rfl) rfl (fun K hK => ?_)
              go_simp
              refine hK.out _ _ (fun e => absurd rfl e) ?_
              clear hK K x0 x1 x2 hS HX
              refine done_till (by kernel_rfl) ?_ _
              generalize wd.setCell ⟨B, v, none⟩ (.int .i64 (x - f)) = W2 at *
              have hcD := HD.out.2
              rw [ivL_set, show x - f = x + (0 - f) by omega, hrs] at hcD
              have HE := Lib.hid (And.intro hilH.out (And.intro HD.out.1 hcD))
              clear n0 n1 q0 q1 y0 cx0 hfr HI HD hcD
              go_wp2
              go_roundw
              case rel => exact ⟨i + 1, by go_num, HE.out.1, HE.out.2.1, HE.out.2.2⟩
              case measure =>
                have := HE.out.1
                simp only [intOf]
                omega
            · have hfi : (e.fr == (v : Int)) = false := by simpa using hf
              rw [if_neg hf] at hrsame
              have hcD := HI.out.2.2
              rw [hrsame (by omega)] at hcD
              have HE := Lib.hid (And.intro hilH.out (And.intro HI.out.2.1 hcD))
              have HFF := Lib.hid hf
              clear hf hcD cx0 hfr
              go_wp2
              go_roundw
              case rel => exact ⟨i + 1, by go_num, HE.out.1, HE.out.2.1, HE.out.2.2⟩
              case measure =>
                have := HE.out.1
                simp only [intOf]
                omega
        · obtain rfl : i = M := by omega
          have hii : ¬ (i : Int) < (i : Int) := by omega
          have hcN : Cel wr B (ivL (rowF (es.zip fl) (v + 1) 0 m)) 2 := by
            rw [← rowF_next (i := i) (by rw [List.length_zip, H0.out.2.2.1.2]; omega)]
            exact hc
          have HE := Lib.hid (And.intro HV.out.1 (And.intro ho hcN))
          clear hcN ho hc hig hi
          go_wp2
          go_roundw
          case rel => exact ⟨v + 1, by go_num, HE.out.1, HE.out.2⟩
          case measure =>
            have := HE.out.1
            simp only [intOf]
            omega
    · obtain rfl : v = m := by omega
      have hvi : ¬ (v : Int) < (v : Int) := by omega
      rw [rowF_end, ← H0.out.2.1] at hc
      have hzl : v = Z.length := by rw [H0.out.2.1, overL_length]; simp
      have HE := Lib.hid (And.intro ho (And.intro hc hzl))
      clear ho hc hzl hvg hv
      go_wp2
      go_ret
      exact ⟨_, rfl, fs_of_cel HE.out.2.1 (by rw [← HE.out.2.2]; have := H0.out.2.2.2.1; omega) HE.out.2.2, H0.out.2.2.2.2.2.1.trans (HE.out.1.below H0.out.2.2.2.2.2.1.size (fun q hq => by have := H0.out.2.2.2.2.2.2.2.1; omega))⟩
end Go.Proofs.Ytmdjgkclbjbdiaa
