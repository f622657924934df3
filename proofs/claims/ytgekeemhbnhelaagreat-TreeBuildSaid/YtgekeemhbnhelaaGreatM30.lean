/- What stands for a node when what is to be done is done to the leaf below it: the walk of redo; condition: the node is a tree's. -/
import Derived.Test.YtgekeemhbnhelaaGreatM23
import Derived.Deep.CutRange
import Derived.Deep.DeepCutAuto
namespace Go.Proofs.YtgekeemhbnhelaaGreat
open Go.RowKit

section
variable {w : World} {tb db pb fr : Nat} {D : Dv} {ps : List Pg} {wb : Nat} {top : Nd} {P X0 : List Nat} {S F G : Nat → Prop} {tev ttv tv bv xv : Value} {lvl m : Nat} {pg : Int} {nev ntv kv : Value} {es : List En} {nto : Bytes} {prs : List Pr} {pgs : List Nat} {ed : Ed}

/-- The group of nodes, as it lies in memory. -/
def Grp (w0 : World) (tb db pb fr : Nat) (D : Dv) (ps : List Pg) (wb : Nat) (top : Nd) (X0 own : List Nat) (S0 F G : Nat → Prop) (tev ttv tv bv : Value) (m : Nat) (kids : List Sb) (prs' : List Pr) (i1 : Nat) (BL : List Bytes) (g z : Nat) (W : World) : Prop :=
  ∃ (S : Nat → Prop) (xv : Value) (X : List Nat) (v : Value) (Gs : List (List En)) (K1 mid K2 : List Sb) (pM : List Pr) (gM : List Nat) (f b : Nat),
    StAt W tb db pb fr D (tdones i1 ps) wb top ⟨placeT ps i1, BL, X0 ++ (own ++ X)⟩ S F G tev ttv tv bv xv ∧ Step S0 w0 W S ∧ (∀ q, S0 q → S q) ∧ ¬ S g ∧ ¬ S z ∧ X.length ≤ 2 * m + 2 ∧ Cel W g [v, .int .i64 (f : Int), .int .i64 (b : Int)] 176 ∧
    Rd kdNd W S v (Gs.map (mkN m)) ∧ Gr (ovr (blkOf D fr) ((placeT ps i1).zip BL)) ps.length m kids K1 mid K2 Gs pM gM (placeT ps i1) X prs' f b

set_option maxRecDepth 100000 in
set_option maxHeartbeats 20000000 in
theorem redo_inner (h : RedoH w tb db pb fr D ps wb top P X0 S F G tev ttv tv bv xv (m + 1) pg nev ntv kv es nto prs pgs ed)
    (IH : ∀ (w : World) (X0 : List Nat) (S : Nat → Prop) (tv bv xv : Value) (pg : Int) (nev ntv : Value) (es : List En) (nto : Bytes) (prs : List Pr) (pgs : List Nat), RedoH w tb db pb fr D ps wb top P X0 S F G tev ttv tv bv xv m pg nev ntv kv es nto prs pgs ed →
      Calls Tryz.prog 91 #[ptr wb, ndv pg (m : Int) nev ntv, kv, ed.v] w (Redoes w tb db pb fr D ps wb top X0 S F G tev ttv m (ownP pg) prs pgs ed)) :
    Calls Tryz.prog 91 #[ptr wb, ndv pg ((m + 1 : Nat) : Int) nev ntv, kv, ed.v] w (Redoes w tb db pb fr D ps wb top X0 S F G tev ttv (m + 1) (ownP pg) prs pgs ed) := by
  have hprok := h.prok
  obtain ⟨hpos, hN⟩ := h.pos
  have hsize := h.size
  have hnd := h.ok.resolve_left fun hh => by omega
  obtain ⟨kids, rfl, rfl, rfl, hsub⟩ := Nb.succ.1 h.nb
  have hkne : kids ≠ [] := fun e => hnd.1.1 (by rw [e]; rfl)
  have hk2 : 2 ≤ kids.length := by have := hnd.2 (by omega); rw [List.length_map] at this; exact this
  obtain ⟨kd, hkd, hsp, hA, hC⟩ := split_way (key := ed.key) hsub h.rise hnd.1.2.2.1 hkne
  obtain ⟨ces, cpg, g1, g2, g3, g4, g5, g6, g7, g8, g9, g10⟩ := kid_facts hsub h.rise h.und hkd
  obtain ⟨dv, hdv⟩ : ∃ dv, dv = ed.v := ⟨_, rfl⟩
  rw [← hdv] at IH
  rw [← hdv]
  have hlen := hnd.1.few
  obtain ⟨ea, ec, rfl, _⟩ := h.rd.shape
  obtain ⟨ta, tc, rfl, _⟩ := h.rt.1.shape
  obtain ⟨ka, kc, rfl, _⟩ := h.key.1.shape
  obtain ⟨en, hen⟩ : ∃ en, en = (kids.map kidE).length := ⟨_, rfl⟩
  obtain ⟨tn, htn⟩ : ∃ tn, tn = nto.length := ⟨_, rfl⟩
  obtain ⟨kn, hkn⟩ : ∃ kn, kn = ed.key.length := ⟨_, rfl⟩
  obtain ⟨lm, hlm⟩ : ∃ lm : Int, lm = (m : Int) + 1 := ⟨_, rfl⟩
  obtain ⟨wy, hwy⟩ : ∃ wy, wy = way (kids.map kidE) ed.key := ⟨_, rfl⟩
  rw [show ((m + 1 : Nat) : Int) = lm by rw [hlm]; norm_cast, ← hen, ← htn, ← hkn]
  rw [← hwy] at hkd hsp hA hC g6 g8 g10
  have hl0 : ¬ lm = 0 := by omega
  have hlb : (lm == 0) = false := by rw [beq_eq_false_iff_ne]; omega
  have hb1 : Below w.heap.size w (w.alloc (.cells #[.int .i64 pg, .int .i64 lm, .slice ea en ec, .slice ta tn tc] 85)) := (Below.refl _ _).alloc (Nat.le_refl _) _
  have C1 : Cel (w.alloc (.cells #[.int .i64 pg, .int .i64 lm, .slice ea en ec, .slice ta tn tc] 85)) w.heap.size [.int .i64 pg, .int .i64 lm, .slice ea en ec, .slice ta tn tc] 85 := Cel.new w _ _
  have q0 := C1.cell 0
  have q1 := C1.cell 1
  have q2 := C1.cell 2
  have q3 := C1.cell 3
  have L := leave_any (lv := lm) (ev := .slice ea en ec) (tv0 := .slice ta tn tc) (p := pg) (h.st.below hb1) h.pg1 (by show X0.length ≤ _; have := h.x; omega)
  rw [leaves_own] at L
  have hwyl : (wy : Int) < 1000 := by have := (List.getElem?_eq_some_iff.1 hkd).1; rw [List.length_map] at hlen; omega
  have HP := Lib.hid (And.intro hprok (And.intro hpos (And.intro hN (And.intro hsize (And.intro hnd (And.intro hk2 (And.intro hkd (And.intro hsub (And.intro hA hC)))))))))
  have HG := Lib.hid (And.intro g1 (And.intro g2 (And.intro g3 (And.intro g4 (And.intro g5 (And.intro g6 (And.intro g7 (And.intro g8 (And.intro g9 g10)))))))))
  have HE := Lib.hid (And.intro hen (And.intro htn (And.intro hkn (And.intro hlm (And.intro hwy (And.intro hdv hlen))))))
  have HI := Lib.hid IH
  have HH := Lib.hid (And.intro h (And.intro hb1 C1))
  clear hprok hpos hN hsize hnd hsub hkne hk2 hkd hsp hA hC g1 g2 g3 g4 g5 g6 g7 g8 g9 g10 hen htn hkn hlm hwy hdv hlen h hb1 C1 IH
  go_enter Tryz.func91, Tryz.ntmps91
  go_wp2_with fail
  refine L.mono ?_
  rintro e w2 ⟨rfl, S2, xv2, h2, st2, in2, xn2, sm2⟩
  clear L
  have C2 := HH.out.2.2.kept (sm2 w.heap.size HH.out.2.2.lt (fun e => by have := HH.out.1.st.cel.lt; omega) (fun e => by have := HH.out.1.st.rx.own (q := w.heap.size) e; omega))
  have q0 := C2.cell 0
  have q1 := C2.cell 1
  have q2 := C2.cell 2
  have q3 := C2.cell 3
  have hst := (Step.of_below HH.out.2.1 S).trans st2
  have hz2 : ¬ S2 w.heap.size := fun hq => (st2.more _ hq).elim (fun h1 => Nat.lt_irrefl _ (HH.out.1.st.tr.lt _ h1)) (fun h1 => by have := HH.out.2.2.lt; omega)
  have hrd := HH.out.1.rd.step hst
  have hrt := HH.out.1.rt.step hst
  have hkey := HH.out.1.key.step hst
  rw [← HE.out.1] at hrd
  rw [← HE.out.2.1] at hrt
  rw [← HE.out.2.2.1] at hkey
  have WY := way_any (p := pg) (l := lm) (tv := .slice ta tn tc) w2 hrd hkey.1 HP.out.2.2.2.2.1.1.2.2.1 (by have := HE.out.2.2.2.2.2.2; omega)
  rw [← HE.out.2.2.2.2.1] at WY
  have H2 := Lib.hid (And.intro h2 (And.intro hst (And.intro in2 (And.intro C2 (And.intro hz2 (And.intro hrd (And.intro hrt hkey)))))))
  clear h2 st2 in2 xn2 sm2 C2 hst hz2 hrd hrt hkey
  go_wp2_with fail
  refine WY.mono ?_
  rintro e w3 ⟨rfl, hb3⟩
  clear WY q0 q1 q2 q3
  have h3 := H2.out.1.below hb3
  have C3 := H2.out.2.2.2.1.below hb3 H2.out.2.2.2.1.lt
  have rd3 := H2.out.2.2.2.2.2.1.step (Step.of_below hb3 _)
  have rt3 := H2.out.2.2.2.2.2.2.1.step (Step.of_below hb3 _)
  have A := fun (W1 : World) (hb1 : Below w3.heap.size w3 W1) => child_any (p := pg) (ev := .slice ea en ec) (tv := .slice ta tn tc) (i := wy) W1 HE.out.2.2.2.1 ⟨F, G, (h3.below hb1).tr⟩ HH.out.1.on (rd3.step (Step.of_below hb1 _)) (rt3.step (Step.of_below hb1 _)) HG.out.2.2.2.2.2.1 HG.out.2.2.2.2.1 (by have := HH.out.1.few; omega) HG.out.1 HG.out.2.1 HG.out.2.2.2.2.2.2.1 HG.out.2.2.2.2.2.2.2.1
  obtain ⟨Sx, hSx⟩ : ∃ Sx : World → Prop, ∀ W1, Sx W1 ↔ Below w3.heap.size w3 W1 := ⟨_, fun _ => Iff.rfl⟩
  have HX := Lib.hid (fun (W1 : World) (hW1 : Sx W1) => And.intro ((h3.below ((hSx W1).1 hW1)).cel.cell 0) (And.intro ((C3.below ((hSx W1).1 hW1) C3.lt).cell 0) (And.intro ((C3.below ((hSx W1).1 hW1) C3.lt).cell 1) (And.intro ((C3.below ((hSx W1).1 hW1) C3.lt).cell 2) ((C3.below ((hSx W1).1 hW1) C3.lt).cell 3)))))
  have HS := Lib.hid hSx
  have HA := Lib.hid A
  have hD := (hSx w3.drew).2 (Below.refl _ _).drew
  have H3 := Lib.hid (And.intro h3 (And.intro C3 (And.intro rd3 (And.intro rt3 hb3))))
  clear h3 C3 rd3 rt3 hb3 A hSx
  go_upto_region 6 with fail
  go_cut [10, 14] from 17 to 110 (fun t10 t14 wx => ∃ (y : Nat) (ca xa : Option Addr) (cc xc : Nat), t10 = err 0 ∧ t14 = ptr y ∧ Below w3.heap.size w3 wx ∧ w3.heap.size ≤ y ∧ Cel wx y [.int .i64 (kd.page : Int), .int .i64 (m : Int), .slice ca ces.length cc, .slice xa (endK (kids.map kidE) nto wy).length xc] 85 ∧
    Rd kdEn wx S2 (.slice ca ces.length cc) ces ∧ Bsf wx S2 (.slice xa (endK (kids.map kidE) nto wy).length xc) (endK (kids.map kidE) nto wy))
  case first =>
    refine region_till 99 Sx (by kernel_rfl) hD (fun hS => ?_)
    refine take_till (i := 0) (some 38) (ptr wb) rfl rfl (by kernel_rfl) (by kernel_rfl) (by kernel_rfl) (by kernel_rfl) (by decide) (fun _ _ _ h => h) (by rfl) (fun W hW => ?_) hS ?_
    · have hx := HX.out W hW
      clear hW
      go_simp
    simp only [Act.put, List.setIfInBounds_toArray, List.set_cons_zero, List.set_cons_succ]
    refine take_till (i := 1) (some 39) (ptr wb) rfl rfl (by kernel_rfl) (by kernel_rfl) (by kernel_rfl) (by kernel_rfl) (by decide) (fun _ _ _ h => h) (by rfl) (fun W hW => ?_) hS ?_
    · have hx := HX.out W hW
      clear hW
      go_simp
    simp only [Act.put, List.setIfInBounds_toArray, List.set_cons_zero, List.set_cons_succ]
    refine take_till (i := 2) (some 40) (.pointer (some ⟨wb, 0, none⟩)) rfl rfl (by kernel_rfl) (by kernel_rfl) (by kernel_rfl) (by kernel_rfl) (by decide) (fun _ _ _ h => h) (by rfl) (fun W hW => ?_) hS ?_
    · have hx := HX.out W hW
      clear hW
      go_simp
    simp only [Act.put, List.setIfInBounds_toArray, List.set_cons_zero, List.set_cons_succ]
    refine take_till (i := 3) (some 41) (ptr tb) rfl rfl (by kernel_rfl) (by kernel_rfl) (by kernel_rfl) (by kernel_rfl) (by decide) (fun _ _ _ h => h) (by rfl) (fun W hW => ?_) hS ?_
    · have hx := HX.out W hW
      clear hW
      go_simp
    simp only [Act.put, List.setIfInBounds_toArray, List.set_cons_zero, List.set_cons_succ]
    refine take_till (i := 4) (some 42) (ndv pg lm (.slice ea en ec) (.slice ta tn tc)) rfl rfl (by kernel_rfl) (by kernel_rfl) (by kernel_rfl) (by kernel_rfl) (by decide) (fun _ _ _ h => h) (by rfl) (fun W hW => ?_) hS ?_
    · have hx := HX.out W hW
      clear hW
      go_simp
    simp only [Act.put, List.setIfInBounds_toArray, List.set_cons_zero, List.set_cons_succ]
    refine take_till (i := 5) (some 43) (.int .i64 (wy : Int)) rfl rfl (by kernel_rfl) (by kernel_rfl) (by kernel_rfl) (by kernel_rfl) (by decide) (fun _ _ _ h => h) (by rfl) (fun W hW => ?_) hS ?_
    · have hx := HX.out W hW
      clear hW
      go_simp
    simp only [Act.put, List.setIfInBounds_toArray, List.set_cons_zero, List.set_cons_succ]
    have A2 := HA.out w3.drew (Below.refl _ _).drew
    have hwd := (H3.out.1.below (Below.refl _ _).drew).wide (x := w3.drew.heap.size) ((Below.refl w3.drew.heap.size w3.drew).alloc (Nat.le_refl _) (.cells #[.int .i64 0, .int .i64 0, .slice none 0 0, .slice none 0 0] 85)) (Nat.le_refl _) (by simp)
    have hstd := (Step.of_below (Below.refl w3.heap.size w3).drew S2).trans hwd.2
    have A3 := child_any (p := pg) (ev := .slice ea en ec) (tv := .slice ta tn tc) (i := wy) (w3.drew.alloc (.cells #[.int .i64 0, .int .i64 0, .slice none 0 0, .slice none 0 0] 85)) HE.out.2.2.2.1 ⟨F, G, hwd.1.tr⟩ HH.out.1.on (H3.out.2.2.1.step hstd) (H3.out.2.2.2.1.step hstd) HG.out.2.2.2.2.2.1 HG.out.2.2.2.2.1 (by have := HH.out.1.few; omega) HG.out.1 HG.out.2.1 HG.out.2.2.2.2.2.2.1 HG.out.2.2.2.2.2.2.2.1
    clear hwd hstd
    have hb3 : Below w3.heap.size w3 (w3.drew.alloc (.cells #[.int .i64 0, .int .i64 0, .slice none 0 0, .slice none 0 0] 85)) := (Below.refl _ _).drew.alloc (Nat.le_refl _) _
    have hD3 := (HS.out _).2 hb3
    have HB3 := Lib.hid (And.intro hb3 (And.intro hD3 (Cel.new w3.drew #[.int .i64 0, .int .i64 0, .slice none 0 0, .slice none 0 0] 85)))
    clear hb3 hD3
    refine two_till 6 10 (by kernel_rfl) rfl rfl (fun K hK => ?_) (fun K hK => ?_)
    · clear A3
      go_simp
      refine A2.mono ?_
      rintro e w5 ⟨cv, rfl, hnv, hb5⟩
      have hbb : Below w3.heap.size w3 w5 := ⟨hb5.os, hb5.tape, hb5.output, hb5.size, hb5.block⟩
      have hS5 := (HS.out w5).2 hbb
      refine hK.out _ _ (fun _ => hS5) ?_
      clear hK K hS A2
      have hnv' : Nv w5 _ cv ⟨(kd.page : Int), m, ces, endK (kids.map kidE) nto wy⟩ := hnv
      obtain ⟨ca, cc, xa, xc, rfl, hre, hbx⟩ := hnv'
      clear hnv
      obtain ⟨xn, hxn⟩ : ∃ xn, xn = (endK (kids.map kidE) nto wy).length := ⟨_, rfl⟩
      rw [← hxn]
      rw [← hxn] at hbx
      have hS := hS5
      have hb6 : Below w3.heap.size w3 (w5.alloc (.cells #[.int .i64 0, .int .i64 0, .slice none 0 0, .slice none 0 0] 85)) := hbb.alloc hbb.size _
      have hS6 := (HS.out _).2 hb6
      have C6 := Cel.new w5 #[.int .i64 0, .int .i64 0, .slice none 0 0, .slice none 0 0] 85
      have k0 := C6.cell 0
      have k1 := C6.cell 1
      have k2 := C6.cell 2
      have k3 := C6.cell 3
      have f0 := C6.frozen 0
      have f1 := C6.frozen 1
      have f2 := C6.frozen 2
      have f3 := C6.frozen 3
      have hy : w3.heap.size ≤ w5.heap.size := hbb.size
      have hb7 : Below w3.heap.size w3 (w5.alloc (.cells #[.int .i64 (kd.page : Int), .int .i64 (m : Int), .slice ca ces.length cc, .slice xa xn xc] 85)) := hbb.alloc hbb.size _
      have C7 : Cel (w5.alloc (.cells #[.int .i64 (kd.page : Int), .int .i64 (m : Int), .slice ca ces.length cc, .slice xa xn xc] 85)) w5.heap.size [.int .i64 (kd.page : Int), .int .i64 (m : Int), .slice ca ces.length cc, .slice xa xn xc] 85 := Cel.new w5 _ _
      have hw58 : Below w5.heap.size w5 (w5.alloc (.cells #[.int .i64 (kd.page : Int), .int .i64 (m : Int), .slice ca ces.length cc, .slice xa xn xc] 85)) := (Below.refl _ _).alloc (Nat.le_refl _) _
      have hre7 := hre.step (Step.of_below hw58 _)
      have hbx7 := hbx.step (Step.of_below hw58 _)
      have hS7 := (HS.out _).2 hb7
      have H7 := Lib.hid (And.intro hy (And.intro hb7 (And.intro C7 (And.intro hre7 (And.intro hbx7 hxn)))))
      clear hre hbx hbb hS5 hb6 C6 hy hb7 C7 hw58 hre7 hbx7 hxn hb5
      refine take_till (i := 7) (some 37) (.tuple #[ndv (kd.page : Int) (m : Int) (.slice ca ces.length cc) (.slice xa xn xc), err 0]) rfl rfl (by kernel_rfl) (by kernel_rfl) (by kernel_rfl) (by kernel_rfl) (by decide) (fun _ _ _ h => h) (by rfl) (fun W hW => ?_) hS ?_
      · have hx := HX.out W hW
        clear hW
        go_simp
      simp only [Act.put, List.setIfInBounds_toArray, List.set_cons_zero, List.set_cons_succ]
      refine take_till (i := 8) (some 45) (ndv (kd.page : Int) (m : Int) (.slice ca ces.length cc) (.slice xa xn xc)) rfl rfl (by kernel_rfl) (by kernel_rfl) (by kernel_rfl) (by kernel_rfl) (by decide) (fun _ _ _ h => h) (by rfl) (fun W hW => ?_) hS ?_
      · have hx := HX.out W hW
        clear hW
        go_simp
      simp only [Act.put, List.setIfInBounds_toArray, List.set_cons_zero, List.set_cons_succ]
      refine take_till (i := 9) (some 46) (err 0) rfl rfl (by kernel_rfl) (by kernel_rfl) (by kernel_rfl) (by kernel_rfl) (by decide) (fun _ _ _ h => h) (by rfl) (fun W hW => ?_) hS ?_
      · have hx := HX.out W hW
        clear hW
        go_simp
      simp only [Act.put, List.setIfInBounds_toArray, List.set_cons_zero, List.set_cons_succ]
      refine next_till 10 (by kernel_rfl) rfl (fun K hK => ?_)
      go_simp
      refine hK.out _ _ (fun _ => hS6) ?_
      clear hK K
      refine next_till 11 (by kernel_rfl) rfl (fun K hK => ?_)
      go_simp
      refine hK.out _ _ (fun _ => hS7) ?_
      clear hK K
      refine next_till 12 (by kernel_rfl) rfl (fun K hK => ?_)
      go_simp
      refine hK.out _ _ (fun _ => hS7) ?_
      clear hK K
      refine done_till (by kernel_rfl) ?_ _
      go_wp2_with fail
      go_meet
      case rel =>
        refine ⟨_, ca, xa, cc, xc, rfl, rfl, H7.out.2.1, H7.out.1, ?_, H7.out.2.2.2.1, ?_⟩
        · rw [← H7.out.2.2.2.2.2]; exact H7.out.2.2.1
        · rw [← H7.out.2.2.2.2.2]; exact H7.out.2.2.2.2.1
    · clear A2
      go_simp
      refine hK.out _ _ (fun _ => HB3.out.2.1) ?_
      clear hK K hS
      refine next_till 6 (by kernel_rfl) rfl (fun K hK => ?_)
      go_simp
      refine A3.mono ?_
      rintro e w5 ⟨cv, rfl, hnv, hb5⟩
      have hbb : Below w3.heap.size w3 w5 := HB3.out.1.trans (hb5.mono HB3.out.1.size)
      have hS5 := (HS.out w5).2 hbb
      refine hK.out _ _ (fun _ => hS5) ?_
      clear hK K A3
      have hnv' : Nv w5 _ cv ⟨(kd.page : Int), m, ces, endK (kids.map kidE) nto wy⟩ := hnv
      obtain ⟨ca, cc, xa, xc, rfl, hre, hbx⟩ := hnv'
      clear hnv
      obtain ⟨xn, hxn⟩ : ∃ xn, xn = (endK (kids.map kidE) nto wy).length := ⟨_, rfl⟩
      rw [← hxn]
      rw [← hxn] at hbx
      have hS := hS5
      have C6 := HB3.out.2.2.below hb5 HB3.out.2.2.lt
      have k0 : w5.cell? ⟨w3.heap.size, 0, none⟩ = some (.int .i64 0) := C6.cell 0
      have k1 : w5.cell? ⟨w3.heap.size, 1, none⟩ = some (.int .i64 0) := C6.cell 1
      have k2 : w5.cell? ⟨w3.heap.size, 2, none⟩ = some (.slice none 0 0) := C6.cell 2
      have k3 : w5.cell? ⟨w3.heap.size, 3, none⟩ = some (.slice none 0 0) := C6.cell 3
      have f0 : w5.frozen? ⟨w3.heap.size, 0, none⟩ = false := C6.frozen 0
      have f1 : w5.frozen? ⟨w3.heap.size, 1, none⟩ = false := C6.frozen 1
      have f2 : w5.frozen? ⟨w3.heap.size, 2, none⟩ = false := C6.frozen 2
      have f3 : w5.frozen? ⟨w3.heap.size, 3, none⟩ = false := C6.frozen 3
      have hy : w3.heap.size ≤ w3.heap.size := Nat.le_refl _
      have hb7 := (((hbb.setCell (p := ⟨w3.heap.size, 0, none⟩) hy (.int .i64 (kd.page : Int))).setCell (p := ⟨w3.heap.size, 1, none⟩) hy (.int .i64 (m : Int))).setCell (p := ⟨w3.heap.size, 2, none⟩) hy (.slice ca ces.length cc)).setCell (p := ⟨w3.heap.size, 3, none⟩) hy (.slice xa xn xc)
      have C7 := (((C6.set 0 (.int .i64 (kd.page : Int))).set 1 (.int .i64 (m : Int))).set 2 (.slice ca ces.length cc)).set 3 (.slice xa xn xc)
      have hy6 : ∀ (q : Nat), q = w3.heap.size → (S2 q ∨ q = w3.drew.heap.size) := fun q hq => .inr hq
      have st7 := ((((Step.refl (fun q => S2 q ∨ q = w3.drew.heap.size) w5).set (p := ⟨w3.heap.size, 0, none⟩) (hy6 _ rfl) (.int .i64 (kd.page : Int))).set (p := ⟨w3.heap.size, 1, none⟩) (hy6 _ rfl) (.int .i64 (m : Int))).set (p := ⟨w3.heap.size, 2, none⟩) (hy6 _ rfl) (.slice ca ces.length cc)).set (p := ⟨w3.heap.size, 3, none⟩) (hy6 _ rfl) (.slice xa xn xc)
      have hre7 := (hre.step st7).less (S' := S2) (fun q h => .inl h)
      have hbx7 := (hbx.step st7).step (S' := S2) ⟨Only.refl _ _, fun q h => .inl (.inl h)⟩
      have hS7 := (HS.out _).2 hb7
      have H7 := Lib.hid (And.intro hy (And.intro hb7 (And.intro C7 (And.intro hre7 (And.intro hbx7 hxn)))))
      clear hre hbx hbb hS5 C6 hy hb7 C7 hy6 st7 hre7 hbx7 hxn hb5
      refine take_till (i := 7) (some 37) (.tuple #[ndv (kd.page : Int) (m : Int) (.slice ca ces.length cc) (.slice xa xn xc), err 0]) rfl rfl (by kernel_rfl) (by kernel_rfl) (by kernel_rfl) (by kernel_rfl) (by decide) (fun _ _ _ h => h) (by rfl) (fun W hW => ?_) hS ?_
      · have hx := HX.out W hW
        clear hW
        go_simp
      simp only [Act.put, List.setIfInBounds_toArray, List.set_cons_zero, List.set_cons_succ]
      refine take_till (i := 8) (some 45) (ndv (kd.page : Int) (m : Int) (.slice ca ces.length cc) (.slice xa xn xc)) rfl rfl (by kernel_rfl) (by kernel_rfl) (by kernel_rfl) (by kernel_rfl) (by decide) (fun _ _ _ h => h) (by rfl) (fun W hW => ?_) hS ?_
      · have hx := HX.out W hW
        clear hW
        go_simp
      simp only [Act.put, List.setIfInBounds_toArray, List.set_cons_zero, List.set_cons_succ]
      refine take_till (i := 9) (some 46) (err 0) rfl rfl (by kernel_rfl) (by kernel_rfl) (by kernel_rfl) (by kernel_rfl) (by decide) (fun _ _ _ h => h) (by rfl) (fun W hW => ?_) hS ?_
      · have hx := HX.out W hW
        clear hW
        go_simp
      simp only [Act.put, List.setIfInBounds_toArray, List.set_cons_zero, List.set_cons_succ]
      refine next_till 11 (by kernel_rfl) rfl (fun K hK => ?_)
      go_simp
      refine hK.out _ _ (fun _ => hS7) ?_
      clear hK K
      refine next_till 12 (by kernel_rfl) rfl (fun K hK => ?_)
      go_simp
      refine hK.out _ _ (fun _ => hS7) ?_
      clear hK K
      refine done_till (by kernel_rfl) ?_ _
      go_wp2_with fail
      go_meet
      case rel =>
        refine ⟨_, ca, xa, cc, xc, rfl, rfl, H7.out.2.1, H7.out.1, ?_, H7.out.2.2.2.1, ?_⟩
        · rw [← H7.out.2.2.2.2.2]; exact H7.out.2.2.1
        · rw [← H7.out.2.2.2.2.2]; exact H7.out.2.2.2.2.1
  case rest =>
    obtain ⟨y, ca, xa, cc, xc, rfl, rfl, hb4, hy, Cy, hce, hcx⟩ := hcut
    clear hD
    have hb24 : Below w2.heap.size w2 wc := H3.out.2.2.2.2.trans (hb4.mono H3.out.2.2.2.2.size)
    have st4 : Step S w wc S2 := H2.out.2.1.bel hb24
    have h4 := H3.out.1.below hb4
    have hyS : ¬ S2 y := fun hq => by have := H3.out.1.tr.lt y hq; omega
    have hchild : RedoH wc tb db pb fr D ps wb top P (X0 ++ ownP pg) S2 F G tev ttv tv bv xv2 m (kd.page : Int) (.slice ca ces.length cc) (.slice xa (endK (kids.map kidE) nto wy).length xc) (.slice ka ed.key.length kc) ces (endK (kids.map kidE) nto wy) kd.prs cpg ed :=
      { st := h4, on := HH.out.1.on, top_ := HH.out.1.top_, free := HH.out.1.free, pg1 := by omega
        in_ := fun q hq => HH.out.1.in_ q (by
          rw [ownP_nat, List.singleton_append, ← HG.out.2.2.2.1] at hq
          exact List.mem_append_right _ (List.mem_flatMap.2 ⟨kd, List.mem_of_getElem? HP.out.2.2.2.2.2.2.1, hq⟩))
        rd := hce, rt := hcx, key := HH.out.1.key.step st4, nb := HG.out.2.2.1, ok := .inr HG.out.1, rise := HG.out.2.2.2.2.2.2.2.2.1, und := HG.out.2.2.2.2.2.2.2.2.2, few := by have := HH.out.1.few; omega
        x := by have := HH.out.1.x; have := ownP_len pg; rw [List.length_append]; omega
        at_ := HH.out.1.at_.step st4, edok := HH.out.1.edok }
    have R := HI.out wc _ _ _ _ _ _ _ _ _ _ _ _ hchild
    rw [← HE.out.2.2.1] at R
    obtain ⟨xn, hxn⟩ : ∃ xn, xn = (endK (kids.map kidE) nto wy).length := ⟨_, rfl⟩
    obtain ⟨cn, hcn⟩ : ∃ cn, cn = ces.length := ⟨_, rfl⟩
    rw [← hxn, ← hcn] at R
    rw [← hxn, ← hcn] at Cy
    rw [← hcn] at hce
    have q0 := Cy.cell 0
    have q1 := Cy.cell 1
    have q2 := Cy.cell 2
    have q3 := Cy.cell 3
    have CZ := H3.out.2.1.below hb4 H3.out.2.1.lt
    have hism : ed.is (kids.flatMap Sb.prs) = ed.is kd.prs := by
      conv => lhs; rw [(split_at HP.out.2.2.2.2.2.2.1).1]
      rw [List.flatMap_append, List.flatMap_append, List.flatMap_cons, List.flatMap_nil, List.append_nil]
      exact ed.is_mid HP.out.2.2.2.2.2.2.2.2.1 HP.out.2.2.2.2.2.2.2.2.2
    have H4 := Lib.hid (And.intro st4 (And.intro hyS (And.intro Cy (And.intro CZ (And.intro hce (And.intro hcn hism))))))
    clear hb24 st4 h4 hyS hchild Cy CZ hce hcx hcn hxn hb4 hism
    go_wp2_with fail
    refine R.mono ?_
    rintro e w5 ⟨i1, Xs, BL, S5, tv5, bv5, xv5, h5, st5, in5, hf5, hi5, hx5, hB5, h512, hcase⟩
    clear R q0 q1 q2 q3
    rw [List.append_assoc] at h5
    have hst5 := H4.out.1.trans st5
    have hin5 : ∀ q, S q → S5 q := fun q hq => in5 q (H2.out.2.2.1 q hq)
    rcases hcase with ⟨hn, rfl, na, nc, rfl⟩ | ⟨his, hlf, rfl⟩ | ⟨his, v, Ls, pgs1, rfl, hrv, hrd, hperm⟩
    · have H5 := Lib.hid (And.intro h5 (And.intro hst5 (And.intro hin5 (And.intro hf5 (And.intro hx5 (And.intro hB5 (And.intro h512 hn)))))))
      clear h5 st5 in5 hf5 hi5 hx5 hB5 h512 hst5 hin5 hn
      go_wp2
      go_ret3
      obtain ⟨h5, hst5, hin5, hf5, hx5, hB5, h512, hn⟩ := H5.out
      exact ⟨0, ownP pg ++ Xs, BL, S5, tv5, bv5, xv5, h5, hst5, hin5, hf5, Nat.zero_le _, by have := ownP_len pg; rw [List.length_append]; omega, hB5, h512, .inl ⟨H4.out.2.2.2.2.2.2.trans hn, rfl, none, 0, rfl⟩⟩
    · have H5 := Lib.hid (And.intro h5 (And.intro hst5 (And.intro hin5 (And.intro hf5 (And.intro hx5 (And.intro hB5 (And.intro h512 (And.intro his (And.intro hlf hi5)))))))))
      clear h5 st5 in5 hf5 hi5 hx5 hB5 h512 hst5 hin5 his hlf
      go_wp2
      go_ret3
      obtain ⟨h5, hst5, hin5, hf5, hx5, hB5, h512, his, hlf, hi5⟩ := H5.out
      exact ⟨i1, ownP pg ++ Xs, BL, S5, tv5, bv5, xv5, h5, hst5, hin5, hf5, by omega, by have := ownP_len pg; rw [List.length_append]; omega, hB5, h512, .inr (.inl ⟨H4.out.2.2.2.2.2.2.trans his, hlf, rfl⟩)⟩
    · obtain ⟨va, vc, rfl, _⟩ := hrv.shape
      obtain ⟨ln, hln⟩ : ∃ ln, ln = (Ls.map (mkN m)).length := ⟨_, rfl⟩
      rw [← hln]
      rw [← hln] at hrv
      have hwr : IntKind.i64.wrap ((wy : Int) + 1) = (wy : Int) + 1 := IntWalk.i64_in _ (by omega)
      have hb56 : Below w5.heap.size w5 (w5.alloc (.cells #[.slice va ln vc, .int .i64 (wy : Int), .int .i64 ((wy : Int) + 1)] 176)) := (Below.refl _ _).alloc (Nat.le_refl _) _
      have CG : Cel (w5.alloc (.cells #[.slice va ln vc, .int .i64 (wy : Int), .int .i64 ((wy : Int) + 1)] 176)) w5.heap.size [.slice va ln vc, .int .i64 (wy : Int), .int .i64 ((wy : Int) + 1)] 176 := Cel.new w5 _ _
      have Cy6 := (H4.out.2.2.1.kept (st5.only.block _ H4.out.2.2.1.lt H4.out.2.1)).below hb56 (by have := H4.out.2.2.1.lt; have := st5.size; omega)
      have hz4 : w.heap.size < wc.heap.size := H4.out.2.2.2.1.lt
      have CZ6 := (H4.out.2.2.2.1.kept (st5.only.block _ hz4 H2.out.2.2.2.2.1)).below hb56 (by have := st5.size; omega)
      have hz5 : ¬ S5 w.heap.size := fun hq => (st5.more _ hq).elim H2.out.2.2.2.2.1 (fun h1 => by omega)
      have rce6 := (H4.out.2.2.2.2.1.step st5).step (Step.of_below hb56 _)
      have D6 := dwindled_any (p := (kd.page : Int)) (lvl := m) (tv := .slice xa xn xc) _ (hrv.step (Step.of_below hb56 _)) rce6 (fun a ha => by
        obtain ⟨x, hx, rfl⟩ := List.mem_map.1 ha
        exact ⟨EOk.few (hrd.ok x hx).2.2.2, by have := (hrd.ok x hx).few; show x.length ≤ _; omega⟩) (EOk.few HG.out.1.1.2.2.2) (by have := HG.out.1.1.few; omega)
      obtain ⟨dwb, hdb⟩ : ∃ dwb, dwb = dwB (Ls.map (mkN m)) m ces := ⟨_, rfl⟩
      rw [← hdb] at D6
      have q0 := Cy6.cell 0
      have q1 := Cy6.cell 1
      have q2 := Cy6.cell 2
      have q3 := Cy6.cell 3
      have H5 := Lib.hid (And.intro h5 (And.intro hst5 (And.intro hin5 (And.intro hf5 (And.intro hx5 (And.intro hB5 (And.intro h512 (And.intro his hi5))))))))
      have H6 := Lib.hid (And.intro hrv (And.intro hrd (And.intro hperm (And.intro hln (And.intro hdb (And.intro hb56 (And.intro CG (And.intro CZ6 (And.intro hz5 (show w.heap.size < w5.heap.size by have := st5.size; omega))))))))))
      clear h5 st5 in5 hf5 hi5 hx5 hB5 h512 hst5 hin5 his hrv hrd hperm hln hdb hb56 CG Cy6 hz4 CZ6 hz5 rce6
      go_wp2_with fail
      refine D6.mono ?_
      rintro e w7 ⟨rfl, hb7⟩
      clear D6 q0 q1 q2 q3
      have hb57 : Below w5.heap.size w5 w7 := H6.out.2.2.2.2.2.1.trans (hb7.mono H6.out.2.2.2.2.2.1.size)
      have CG7 := H6.out.2.2.2.2.2.2.1.below hb7 H6.out.2.2.2.2.2.2.1.lt
      have CZ7 := H6.out.2.2.2.2.2.2.2.1.below hb7 H6.out.2.2.2.2.2.2.2.1.lt
      have H7 := Lib.hid (And.intro hb57 (And.intro CG7 CZ7))
      have q0 := CZ7.cell 0
      have q1 := CZ7.cell 1
      have q2 := CZ7.cell 2
      have q3 := CZ7.cell 3
      have u0 := CG7.cell 0
      have u1 := CG7.cell 1
      have u2 := CG7.cell 2
      clear hb57 CG7 CZ7 hb7
      go_upto_if 73 with fail
      go_cut [10] from 17 to 110 (fun t10 wx => t10 = err 0 ∧ Grp w tb db pb fr D ps wb top X0 (ownP pg) S F G tev ttv tv5 bv5 m kids (ed.f (kids.flatMap Sb.prs)) i1 BL w5.heap.size w.heap.size wx ∧ Cel wx w.heap.size [.int .i64 pg, .int .i64 lm, .slice ea en ec, .slice ta tn tc] 85)
      case first =>
        cases dwb with
        | false =>
          go_wp2_with fail
          go_meet
          case rel =>
            obtain ⟨h5, hst5, hin5, hf5, hx5, hB5, h512, his, hi5⟩ := H5.out
            obtain ⟨hrv, hrd, hperm, hln, hdb, hb56, CG, CZ6, hz5, hzz⟩ := H6.out
            obtain ⟨hb57, CG7, CZ7⟩ := H7.out
            rw [ownP_nat] at hperm
            refine ⟨rfl, ⟨S5, xv5, Xs, .slice va ln vc, Ls, kids.take wy, [kd], kids.drop (wy + 1), ed.f kd.prs, pgs1, wy, wy + 1, h5.below hb57, hst5.bel hb57, hin5, fun hq => Nat.lt_irrefl _ (h5.tr.lt _ hq), hz5, by omega, ?_, hrv.step (Step.of_below hb57 _),
              gr_same HP.out.2.2.2.2.2.2.1 HP.out.2.2.2.2.2.1 (dw_ok hrd hdb.symm) hrd (by rw [HG.out.2.2.2.1]; exact hperm) HP.out.2.2.2.2.2.2.2.2.1 HP.out.2.2.2.2.2.2.2.2.2 rfl⟩, CZ7⟩
            rw [show ((wy + 1 : Nat) : Int) = (wy : Int) + 1 by omega]
            exact CG7
        | true =>
          obtain ⟨x, hx⟩ : ∃ x, Ls = [x] := by
            refine List.length_eq_one_iff.1 (Classical.byContradiction fun hne => ?_)
            have := dwB_off (L := Ls.map (mkN m)) (lvl := m) (es := ces) (by rw [List.length_map]; exact hne)
            have h2 := H6.out.2.2.2.2.1
            rw [this] at h2
            cases h2
          subst hx
          have hch : ∀ j, ∃ cj : List En, ∀ kj, kids[j]? = some kj → ∃ cp, NdOk ps.length m cj ∧ blkOf D fr kj.page = sealL 3 (bodyL m cj) ∧ Nb (blkOf D fr) ps.length m cj kj.prs cp ∧ kj.pgs = kj.page :: cp ∧ kj.page < ps.length ∧ cj.head?.map En.key = some kj.key ∧
              ∀ c, cj.getLast? = some c → aheadB c.key (endK (kids.map kidE) nto j) = true := fun j => by
            rcases hj : kids[j]? with _ | kj
            · exact ⟨[], fun _ h => by cases h⟩
            · obtain ⟨cj, cp, f1, f2, f3, f4, f5, f6, f7, f8, _, _⟩ := kid_facts HP.out.2.2.2.2.2.2.2.1 HH.out.1.rise HH.out.1.und hj
              refine ⟨cj, fun kj' h => ?_⟩
              cases h
              exact ⟨cp, f1, f2, f3, f4, f5, f7, f8⟩
          obtain ⟨cs, hcs⟩ := Classical.axiomOfChoice hch
          have hglt : w5.heap.size < w7.heap.size := H7.out.2.1.lt
          obtain ⟨h7, st7⟩ := H5.out.1.wide H7.out.1 (Nat.le_refl w5.heap.size) hglt
          have st27 : Step S w w7 (fun q => S5 q ∨ q = w5.heap.size) := H5.out.2.1.trans st7
          have he7 := HH.out.1.rd.step st27
          have ht7 := HH.out.1.rt.step st27
          have hg7 := H6.out.1.step st7
          rw [← HE.out.1] at he7
          rw [← HE.out.2.1] at ht7
          have hox := H6.out.2.1.ok x (List.mem_singleton.2 rfl)
          have J := join_any (np := pg) (l := m) (own := mkN m x) (i := wy) h7 HH.out.1.on he7 ht7 (by have := HH.out.1.few; omega) (by have := HE.out.2.2.2.2.2.2; omega) hg7 (EOk.few hox.2.2.2) (by have := hox.few; show x.length ≤ _; omega)
            (by have := (List.getElem?_eq_some_iff.1 HP.out.2.2.2.2.2.2.1).1; rw [List.length_map]; exact this) cs (fun j a ha => by
              rw [List.getElem?_map] at ha
              obtain ⟨kj, hkj, rfl⟩ := Option.map_eq_some_iff.1 ha
              obtain ⟨cp, f1, f2, f3, f4, f5, f6, f7⟩ := hcs j kj hkj
              rw [tdones_length]
              exact ⟨f5, f1, f2, f6, f7⟩) (by have := HH.out.1.x; have := ownP_len pg; have := H5.out.2.2.2.2.1; show (X0 ++ (ownP pg ++ Xs)).length ≤ _; rw [List.length_append, List.length_append]; omega)
          rw [← HE.out.2.2.2.1] at J
          have HJ := Lib.hid (And.intro hcs (And.intro hglt (And.intro st7 (And.intro st27 hox))))
          clear hch hcs hglt h7 st7 st27 he7 ht7 hg7 hox
          go_wp2_with fail
          refine J.mono ?_
          rintro e w8 ⟨S8, xv8, st8, in8, xn8, sm8, hj⟩
          clear J q0 q1 q2 q3 u0 u1 u2
          have CG8 := H7.out.2.1.kept (sm8 w5.heap.size HJ.out.2.1 (fun e => by have := H5.out.1.cel.lt; omega) (fun e => by have := H5.out.1.rx.own (q := w5.heap.size) e; omega))
          have hzz := H6.out.2.2.2.2.2.2.2.2.2
          have CZ8 := H7.out.2.2.kept (sm8 w.heap.size H7.out.2.2.lt (fun e => by have := HH.out.1.st.cel.lt; omega) (fun e => by have h1 := H5.out.1.rx.inS (q := w.heap.size) e; exact H6.out.2.2.2.2.2.2.2.2.1 h1))
          have f0 := CG8.frozen 0
          have f1 := CG8.frozen 1
          have f2 := CG8.frozen 2
          have u0 := CG8.cell 0
          have u1 := CG8.cell 1
          have u2 := CG8.cell 2
          have hW : ∀ (v2 : Value) (f b : Int) (X : List Nat), StAt w8 tb db pb fr D (tdones i1 ps) wb top ⟨placeT ps i1, BL, X⟩ S8 F G tev ttv tv5 bv5 xv8 →
              ∀ w9, w9 = ((w8.setCell ⟨w5.heap.size, 0, none⟩ v2).setCell ⟨w5.heap.size, 1, none⟩ (.int .i64 f)).setCell ⟨w5.heap.size, 2, none⟩ (.int .i64 b) →
              StAt w9 tb db pb fr D (tdones i1 ps) wb top ⟨placeT ps i1, BL, X⟩ (fun q => S8 q ∧ q ≠ w5.heap.size) F G tev ttv tv5 bv5 xv8 ∧ Step S8 w8 w9 (fun q => S8 q ∧ q ≠ w5.heap.size) ∧ Cel w9 w5.heap.size [v2, .int .i64 f, .int .i64 b] 176 ∧
                Cel w9 w.heap.size [.int .i64 pg, .int .i64 lm, .slice ea en ec, .slice ta tn tc] 85 := by
            intro v2 f b X h8 w9 hw9
            have hlt5 := H5.out.1.tr.lt
            have hgF : ¬ F w5.heap.size := fun hq => Nat.lt_irrefl _ (hlt5 _ (H5.out.1.tr.fs _ hq))
            have hgG : ¬ G w5.heap.size := fun hq => Nat.lt_irrefl _ (hlt5 _ (H5.out.1.tr.gs _ hq))
            have hgw : w5.heap.size ≠ wb := fun e => by have := H5.out.1.cel.lt; omega
            have hgt : tv5.ownBlock ≠ some w5.heap.size := fun e => Nat.lt_irrefl _ (H5.out.1.rt.own e)
            have hgb : bv5.ownBlock ≠ some w5.heap.size := fun e => Nat.lt_irrefl _ (H5.out.1.rb.own e)
            have hgx : xv8.ownBlock ≠ some w5.heap.size := fun e => (xn8 _ e).elim (fun e' => Nat.lt_irrefl _ (H5.out.1.rx.own e')) (fun e' => by have := HJ.out.2.1; omega)
            have ho9 : Only (fun q => q = w5.heap.size) w8 w9 := by
              rw [hw9]
              exact (((Only.refl (fun q => q = w5.heap.size) w8).setCell (p := ⟨w5.heap.size, 0, none⟩) (.inl rfl) v2).setCell (p := ⟨w5.heap.size, 1, none⟩) (.inl rfl) (.int .i64 f)).setCell (p := ⟨w5.heap.size, 2, none⟩) (.inl rfl) (.int .i64 b)
            have hs9 := h8.touch ho9 (in8 _ (.inr rfl)) hgF hgG hgw hgt hgb hgx
            refine ⟨hs9.1.shrink (fun q hq => hq.1) (fun q hq => ⟨hs9.1.tr.fs q hq, fun e => hgF (e ▸ hq)⟩) (fun q hq => ⟨hs9.1.tr.gs q hq, fun e => hgG (e ▸ hq)⟩) ⟨hs9.1.ws, fun e => hgw e.symm⟩ (fun q hq => ⟨hs9.1.rt.inS hq, fun e => hgt (e ▸ hq)⟩) (fun q hq => ⟨hs9.1.rb.inS hq, fun e => hgb (e ▸ hq)⟩) (fun q hq => ⟨hs9.1.rx.inS hq, fun e => hgx (e ▸ hq)⟩), hs9.2.weak (fun q hq => hq.1), ?_, CZ8.kept (ho9.block _ CZ8.lt (by omega))⟩
            rw [hw9]
            exact ((CG8.set 0 v2).set 1 (.int .i64 f)).set 2 (.int .i64 b)
          have hst8 : Step S w w8 S8 := HJ.out.2.2.2.1.trans st8
          have hin8 : ∀ q, S q → S8 q ∧ q ≠ w5.heap.size := fun q hq => ⟨in8 q (.inl (H5.out.2.2.1 q hq)), fun e => by have := HH.out.1.st.tr.lt q hq; omega⟩
          have hz8 : ¬ S8 w.heap.size := fun hq => (st8.more _ hq).elim (fun h1 => h1.elim H6.out.2.2.2.2.2.2.2.2.1 (fun e => by omega)) (fun h1 => by have := HJ.out.2.1; omega)
          have HW := Lib.hid (And.intro hW (And.intro hst8 (And.intro hin8 hz8)))
          clear hW hst8 hin8 hz8 CG8 CZ8 xn8 sm8 in8 st8 hzz
          rcases hj with ⟨q, j, a, v2, L2, hq2, hjo, ha, hok, rfl, hh, hr8, h8⟩ | ⟨hno, rfl, hr8, h8⟩
          · obtain ⟨va2, vc2, rfl, _⟩ := hr8.shape
            obtain ⟨f9, hf9⟩ : ∃ f9, f9 = (if (j : Int) < (wy : Int) then (j : Int) else (wy : Int)) := ⟨_, rfl⟩
            obtain ⟨b9, hb9⟩ : ∃ b9, b9 = (if (j : Int) < (wy : Int) then (wy : Int) + 1 else (j : Int) + 1) := ⟨_, rfl⟩
            obtain ⟨l9, hl9⟩ : ∃ l9, l9 = (L2.map (mkN m)).length := ⟨_, rfl⟩
            rw [← hf9, ← hb9, ← hl9]
            rw [← hl9] at hr8
            have H8 := Lib.hid (And.intro hq2 (And.intro hjo (And.intro ha (And.intro hok (And.intro hh (And.intro hr8 (And.intro h8 (And.intro hf9 hb9))))))))
            clear hq2 hjo ha hok hh hr8 h8 hf9 hb9 hl9
            go_wp2_with fail
            go_meet
            case rel =>
              obtain ⟨hq2, hjo, ha, hok, hh, hr8, h8, hf9, hb9⟩ := H8.out
              obtain ⟨hW, hst8, hin8, hz8⟩ := HW.out
              obtain ⟨h9, st9, CG9, CZ9⟩ := hW (.slice va2 l9 vc2) f9 b9 _ h8 _ rfl
              obtain ⟨hrv, hrd, hperm, hln, hdb, hb56, CG, CZ6, hz5, hzz⟩ := H6.out
              rw [ownP_nat] at hperm
              rw [List.getElem?_map] at ha
              obtain ⟨kj, hkj, rfl⟩ := Option.map_eq_some_iff.1 ha
              obtain ⟨cp, e1, e2, e3, e4, e5, e6, e7⟩ := HJ.out.1 j kj hkj
              have hji : j + 1 = wy ∨ j = wy + 1 := by
                unfold jOf at hjo
                split at hjo <;> omega
              have hinm : ∀ q ∈ kj.pgs, q ∈ P := fun q hq => HH.out.1.in_ q (List.mem_append_right _ (List.mem_flatMap.2 ⟨kj, List.mem_of_getElem? hkj, hq⟩))
              have hfree := (placeT_free H5.out.2.2.2.1).2
              have e3' : Nb (ovr (blkOf D fr) ((placeT ps i1).zip BL)) ps.length m (cs j) kj.prs cp := e3.congr fun q hq => ovr_out' (by rw [placeT_length]; exact H5.out.2.2.2.2.2.1) fun ht => HH.out.1.free q (hfree q ht) (hinm q (by rw [e4]; exact List.mem_cons_of_mem _ hq))
              obtain ⟨K1, mid, K2, pM, gM, hgr⟩ := gr_join (prs := kids.flatMap Sb.prs) (T1 := placeT ps i1) (X := Xs) HP.out.2.2.1 HP.out.2.1 HP.out.2.2.2.2.2.2.1 hkj hji hrd (by rw [HG.out.2.2.2.1]; exact hperm) e1 e3' e4 HP.out.2.2.2.2.2.2.2.2.1 HP.out.2.2.2.2.2.2.2.2.2 rfl (ed.rise HH.out.1.rise) (ed.prok HH.out.1.edok HP.out.1) hok hh
              refine ⟨rfl, ⟨_, xv8, Xs ++ [kj.page], .slice va2 l9 vc2, L2, K1, mid, K2, pM, gM, _, _, ?_, hst8.trans st9, hin8, fun hq => hq.2 rfl, fun hq => hz8 hq.1, by have := H5.out.2.2.2.2.1; rw [List.length_append, List.length_singleton]; omega, ?_, hr8.step st9, hgr⟩, CZ9⟩
              · rw [← List.append_assoc, ← List.append_assoc, List.append_assoc X0]
                exact h9
              · rw [show ((if j < wy then j else wy : Nat) : Int) = f9 by rw [hf9]; split <;> split <;> omega, show ((if j < wy then wy + 1 else j + 1 : Nat) : Int) = b9 by rw [hb9]; split <;> split <;> omega]
                exact CG9
          · have H8 := Lib.hid (And.intro hno (And.intro hr8 h8))
            clear hno hr8 h8
            go_wp2_with fail
            go_meet
            case rel =>
              obtain ⟨hno, hr8, h8⟩ := H8.out
              obtain ⟨hW, hst8, hin8, hz8⟩ := HW.out
              obtain ⟨h9, st9, CG9, CZ9⟩ := hW (.slice va ln vc) (wy : Int) ((wy : Int) + 1) _ h8 _ rfl
              obtain ⟨hrv, hrd, hperm, hln, hdb, hb56, CG, CZ6, hz5, hzz⟩ := H6.out
              rw [ownP_nat] at hperm
              refine ⟨rfl, ⟨_, xv8, Xs, .slice va ln vc, [x], kids.take wy, [kd], kids.drop (wy + 1), ed.f kd.prs, pgs1, wy, wy + 1, h9, hst8.trans st9, hin8, fun hq => hq.2 rfl, fun hq => hz8 hq.1, by have := H5.out.2.2.2.2.1; omega, ?_, hr8.step st9,
                gr_same HP.out.2.2.2.2.2.2.1 HP.out.2.2.2.2.2.1 (alone_ok hrd HP.out.2.2.2.2.2.2.1 HP.out.2.2.2.2.2.1 hno) hrd (by rw [HG.out.2.2.2.1]; exact hperm) HP.out.2.2.2.2.2.2.2.2.1 HP.out.2.2.2.2.2.2.2.2.2 rfl⟩, CZ9⟩
              rw [show ((wy + 1 : Nat) : Int) = (wy : Int) + 1 by omega]
              exact CG9
      case rest =>
        obtain ⟨rfl, ⟨S7, xv7, X7, v7, Gs, K1, mid, K2, pM, gM, f7, b7, h8, hst8, hin8, hg8, hz8, hX8, CG8, hr8, hgr⟩, CZ8⟩ := hcut
        clear q0 q1 q2 q3 u0 u1 u2
        obtain ⟨va7, vc7, rfl, _⟩ := hr8.shape
        obtain ⟨l7, hl7⟩ : ∃ l7, l7 = (Gs.map (mkN m)).length := ⟨_, rfl⟩
        rw [← hl7] at hr8 CG8
        have hf7 : f7 ≤ kids.length ∧ b7 ≤ kids.length := by
          have h1 := hgr.first
          have h2 := hgr.behind
          have h3 := congrArg List.length hgr.parts
          simp only [List.length_append] at h3
          omega
        have PL := place_any (P := P) h8 hr8 HH.out.1.on (by rw [tdones_length]; exact HH.out.1.top_) (fun j hj n hn => by
          exact HH.out.1.free n (least_free hn)) (fun n hn => by
          obtain ⟨L, hL, rfl⟩ := List.mem_map.1 hn
          have hok := hgr.ok L hL
          exact ⟨hok.1.1, EOk.few hok.1.2.2.2, fun e he => by have := (hok.1.2.2.2 e he).2.2.1; have := HP.out.2.2.1; omega, hok.1.2.1, by have := HH.out.1.few; show m ≤ 65535; omega⟩) (by have := H5.out.2.2.2.2.2.2.2.2; have := HH.out.1.few; show (placeT ps i1).length ≤ _; rw [placeT_length]; omega) (by have := H5.out.2.2.2.2.2.1; have := H5.out.2.2.2.2.2.2.2.2; have := HH.out.1.few; show BL.length ≤ _; omega) (by have := hgr.few; rw [List.length_map]; omega)
        have u0 := CG8.cell 0
        have u1 := CG8.cell 1
        have u2 := CG8.cell 2
        have hfe : Few (placeE (tdones i1 ps) (Gs.map (mkN m)) (Gs.map (mkN m)).length) := placeE_few fun n hn e he => by
          obtain ⟨L, hL, rfl⟩ := List.mem_map.1 hn
          have := ((hgr.ok L hL).1.2.2.2 e he).1.2
          omega
        have H8 := Lib.hid (And.intro hst8 (And.intro hin8 (And.intro hg8 (And.intro hz8 (And.intro hX8 (And.intro CG8 (And.intro CZ8 (And.intro hgr (And.intro hfe hf7)))))))))
        clear h8 hst8 hin8 hg8 hz8 hX8 CG8 CZ8 hr8 hgr hfe hf7 hl7
        go_wp2_with fail
        refine PL.mono ?_
        rintro e w9 ⟨i2, S9, tv9, bv9, hf9, h9, st9, in9, (⟨hi2, cv, rfl, hcv⟩ | ⟨hlt, hnone, rfl⟩)⟩
        · clear PL u0 u1 u2
          rw [tdones_add, ← placeT_add] at h9
          have hf := free_add H5.out.2.2.2.1 hf9
          have hst9 := H8.out.1.trans st9
          have CZ9 := H8.out.2.2.2.2.2.2.1.kept (st9.only.block _ H8.out.2.2.2.2.2.2.1.lt H8.out.2.2.2.1)
          have CG9 := H8.out.2.2.2.2.2.1.kept (st9.only.block _ H8.out.2.2.2.2.2.1.lt H8.out.2.2.1)
          have rd9 := HH.out.1.rd.step hst9
          rw [← HE.out.1] at rd9
          have hfb := H8.out.2.2.2.2.2.2.2.2.2
          have hln9 := HE.out.1
          have hl9 : (kids.map kidE).length = kids.length := List.length_map ..
          have hec := H2.out.2.2.2.2.2.1.shape
          obtain ⟨_, _, hec0, hec1, _⟩ := hec
          simp only [Value.slice.injEq] at hec0
          obtain ⟨-, -, hec2⟩ := hec0
          have h1 := rd9.upto f7 (by omega)
          have h2 := rd9.from b7 (by omega)
          obtain ⟨da, hda⟩ : ∃ da, da = (if ec = b7 then ea else Option.map (fun x => x.add (b7 * 3)) ea) := ⟨_, rfl⟩
          rw [← hln9] at h2
          rw [show (if ec = b7 then ea else Option.map (fun x => x.add (b7 * kdEn.sz)) ea) = da from hda.symm] at h2
          obtain ⟨cva, cvc, rfl, _⟩ := hcv.shape
          obtain ⟨cn9, hcn9⟩ : ∃ cn9, cn9 = (placeE (tdones i1 ps) (Gs.map (mkN m)) i2).length := ⟨_, rfl⟩
          rw [← hcn9] at hcv
          rw [← hcn9]
          obtain ⟨Sx, hSx⟩ : ∃ Sx : World → Prop, ∀ W1, Sx W1 ↔ Below w9.heap.size w9 W1 := ⟨_, fun _ => Iff.rfl⟩
          have HX := Lib.hid (fun (W1 : World) (hW1 : Sx W1) => And.intro ((CZ9.below ((hSx W1).1 hW1) CZ9.lt).cell 1) (And.intro ((CZ9.below ((hSx W1).1 hW1) CZ9.lt).cell 2) (And.intro ((CG9.below ((hSx W1).1 hW1) CG9.lt).cell 1) ((CG9.below ((hSx W1).1 hW1) CG9.lt).cell 2))))
          have hD := (hSx w9.drew).2 (Below.refl _ _).drew
          have hi1 : (f7 : Int) ≤ (ec : Int) := by omega
          have hi2' : (b7 : Int) ≤ (en : Int) := by omega
          have hi3 : (en : Int) ≤ (ec : Int) := by omega
          have hi4 : (0 : Int) ≤ (f7 : Int) := by omega
          have hi5 : ¬ (b7 : Int) < 0 := by omega
          have hi6 : ¬ (f7 : Int) < 0 := by omega
          have HS := Lib.hid hSx
          have hSW : ∀ q, S9 q → q < w9.heap.size := h9.tr.lt
          have H9 := Lib.hid (And.intro h9 (And.intro hst9 (And.intro in9 (And.intro hf (And.intro h1 (And.intro h2 (And.intro hcv (And.intro hi2 (And.intro hcn9 (And.intro hSW hl9))))))))))
          have HDA := Lib.hid hda
          clear h9 st9 hst9 in9 hf hf9 h1 h2 hcv hi2 hcn9 hSW CZ9 CG9 rd9 hfb hln9 hec1 hec2 hSx hl9 hda
          go_wp2_with fail
          refine region_till 99 Sx (by kernel_rfl) hD (fun hS => ?_)
          refine take_till (i := 0) (some 94) (.pointer (some ⟨w.heap.size, 1, none⟩)) rfl rfl (by kernel_rfl) (by kernel_rfl) (by kernel_rfl) (by kernel_rfl) (by decide) (fun _ _ _ h => h) (by rfl) (fun W hW => ?_) hS ?_
          · have hx := HX.out W hW
            clear hW
            go_simp
          simp only [Act.put, List.setIfInBounds_toArray, List.set_cons_zero, List.set_cons_succ]
          refine take_till (i := 1) (some 95) (.int .i64 lm) rfl rfl (by kernel_rfl) (by kernel_rfl) (by kernel_rfl) (by kernel_rfl) (by decide) (fun _ _ _ h => h) (by rfl) (fun W hW => ?_) hS ?_
          · have hx := HX.out W hW
            clear hW
            go_simp
          simp only [Act.put, List.setIfInBounds_toArray, List.set_cons_zero, List.set_cons_succ]
          refine take_till (i := 2) (some 96) (.pointer (some ⟨w.heap.size, 2, none⟩)) rfl rfl (by kernel_rfl) (by kernel_rfl) (by kernel_rfl) (by kernel_rfl) (by decide) (fun _ _ _ h => h) (by rfl) (fun W hW => ?_) hS ?_
          · have hx := HX.out W hW
            clear hW
            go_simp
          simp only [Act.put, List.setIfInBounds_toArray, List.set_cons_zero, List.set_cons_succ]
          refine take_till (i := 3) (some 97) (.slice ea en ec) rfl rfl (by kernel_rfl) (by kernel_rfl) (by kernel_rfl) (by kernel_rfl) (by decide) (fun _ _ _ h => h) (by rfl) (fun W hW => ?_) hS ?_
          · have hx := HX.out W hW
            clear hW
            go_simp
          simp only [Act.put, List.setIfInBounds_toArray, List.set_cons_zero, List.set_cons_succ]
          refine take_till (i := 4) (some 98) (.pointer (some ⟨w5.heap.size, 1, none⟩)) rfl rfl (by kernel_rfl) (by kernel_rfl) (by kernel_rfl) (by kernel_rfl) (by decide) (fun _ _ _ h => h) (by rfl) (fun W hW => ?_) hS ?_
          · have hx := HX.out W hW
            clear hW
            go_simp
          simp only [Act.put, List.setIfInBounds_toArray, List.set_cons_zero, List.set_cons_succ]
          refine take_till (i := 5) (some 99) (.int .i64 (f7 : Int)) rfl rfl (by kernel_rfl) (by kernel_rfl) (by kernel_rfl) (by kernel_rfl) (by decide) (fun _ _ _ h => h) (by rfl) (fun W hW => ?_) hS ?_
          · have hx := HX.out W hW
            clear hW
            go_simp
          simp only [Act.put, List.setIfInBounds_toArray, List.set_cons_zero, List.set_cons_succ]
          refine take_till (i := 6) (some 100) (.slice ea f7 ec) rfl rfl (by kernel_rfl) (by kernel_rfl) (by kernel_rfl) (by kernel_rfl) (by decide) (fun _ _ _ h => h) (by rfl) (fun W hW => ?_) hS ?_
          · have hx := HX.out W hW
            clear hW
            go_simp
          simp only [Act.put, List.setIfInBounds_toArray, List.set_cons_zero, List.set_cons_succ]
          refine take_till (i := 7) (some 101) (.slice cva cn9 cvc) rfl rfl (by kernel_rfl) (by kernel_rfl) (by kernel_rfl) (by kernel_rfl) (by decide) (fun _ _ _ h => h) (by rfl) (fun W hW => ?_) hS ?_
          · have hx := HX.out W hW
            clear hW
            go_simp
          simp only [Act.put, List.setIfInBounds_toArray, List.set_cons_zero, List.set_cons_succ]
          refine take_till (i := 8) (some 102) (.pointer (some ⟨w.heap.size, 2, none⟩)) rfl rfl (by kernel_rfl) (by kernel_rfl) (by kernel_rfl) (by kernel_rfl) (by decide) (fun _ _ _ h => h) (by rfl) (fun W hW => ?_) hS ?_
          · have hx := HX.out W hW
            clear hW
            go_simp
          simp only [Act.put, List.setIfInBounds_toArray, List.set_cons_zero, List.set_cons_succ]
          refine take_till (i := 9) (some 103) (.slice ea en ec) rfl rfl (by kernel_rfl) (by kernel_rfl) (by kernel_rfl) (by kernel_rfl) (by decide) (fun _ _ _ h => h) (by rfl) (fun W hW => ?_) hS ?_
          · have hx := HX.out W hW
            clear hW
            go_simp
          simp only [Act.put, List.setIfInBounds_toArray, List.set_cons_zero, List.set_cons_succ]
          refine take_till (i := 10) (some 104) (.pointer (some ⟨w5.heap.size, 2, none⟩)) rfl rfl (by kernel_rfl) (by kernel_rfl) (by kernel_rfl) (by kernel_rfl) (by decide) (fun _ _ _ h => h) (by rfl) (fun W hW => ?_) hS ?_
          · have hx := HX.out W hW
            clear hW
            go_simp
          simp only [Act.put, List.setIfInBounds_toArray, List.set_cons_zero, List.set_cons_succ]
          refine take_till (i := 11) (some 105) (.int .i64 (b7 : Int)) rfl rfl (by kernel_rfl) (by kernel_rfl) (by kernel_rfl) (by kernel_rfl) (by decide) (fun _ _ _ h => h) (by rfl) (fun W hW => ?_) hS ?_
          · have hx := HX.out W hW
            clear hW
            go_simp
          simp only [Act.put, List.setIfInBounds_toArray, List.set_cons_zero, List.set_cons_succ]
          refine take_till (i := 12) (some 106) (.slice (if ec = b7 then ea else Option.map (fun x => x.add (b7 * 3)) ea) (en - b7) (ec - b7)) rfl rfl (by kernel_rfl) (by kernel_rfl) (by kernel_rfl) (by kernel_rfl) (by decide) (fun _ _ _ h => h) (by rfl) (fun W hW => ?_) hS ?_
          · have hx := HX.out W hW
            clear hW
            go_simp
          simp only [Act.put, List.setIfInBounds_toArray, List.set_cons_zero, List.set_cons_succ]
          rw [← HDA.out]
          obtain ⟨W2, hW2⟩ : ∃ W2, W2 = (w9.alloc (.cells #[.slice ea f7 ec, .slice cva cn9 cvc, .slice da (en - b7) (ec - b7)] 83)).drew := ⟨_, rfl⟩
          have st2 : Step S9 w9 W2 S9 := by rw [hW2]; exact ((Step.refl S9 w9).alloc _).drew
          have hb2 : Below w9.heap.size w9 W2 := by rw [hW2]; exact ((Below.refl _ _).alloc (Nat.le_refl _) _).drew
          have hlit : Rd kdEs W2 S9 (.slice (some ⟨w9.heap.size, 0, none⟩) 3 3) [(kids.map kidE).take f7, placeE (tdones i1 ps) (Gs.map (mkN m)) i2, (kids.map kidE).drop b7] := by
            rw [hW2]
            exact (rd_lit kdEs w9 83 S9 H9.out.2.2.2.2.2.2.2.2.2.1 [⟨⟨ea, f7, ec⟩, (kids.map kidE).take f7⟩, ⟨⟨cva, cn9, cvc⟩, placeE (tdones i1 ps) (Gs.map (mkN m)) i2⟩, ⟨⟨da, en - b7, ec - b7⟩, (kids.map kidE).drop b7⟩] _ rfl (fun t ht => by
              rcases List.mem_cons.1 ht with rfl | ht
              · exact H9.out.2.2.2.2.1
              · rcases List.mem_cons.1 ht with rfl | ht
                · exact H9.out.2.2.2.2.2.2.1
                · rw [List.mem_singleton] at ht
                  subst ht
                  exact H9.out.2.2.2.2.2.1) (by simp) rfl).step (Step.refl S9 _).drew
          have hpl : (placeE (tdones i1 ps) (Gs.map (mkN m)) i2).length ≤ 2 := by
            rw [placeE_length, H9.out.2.2.2.2.2.2.2.1, List.length_map]
            exact H8.out.2.2.2.2.2.2.2.1.few
          have hkl : (kids.map kidE).length ≤ 503 := HE.out.2.2.2.2.2.2
          have hlenE : lenE ([(kids.map kidE).take f7, placeE (tdones i1 ps) (Gs.map (mkN m)) i2, (kids.map kidE).drop b7] : List (List En)) ≤ 2147483648 := by
            have e1 : ((kids.map kidE).take f7).length ≤ 503 := by rw [List.length_take]; omega
            have e2 : ((kids.map kidE).drop b7).length ≤ 503 := by rw [List.length_drop]; omega
            unfold lenE
            simp only [List.map_cons, List.map_nil, List.sum_cons, List.sum_nil]
            omega
          have hSW2 : ∀ q, S9 q → q < W2.heap.size := fun q hq => Nat.lt_of_lt_of_le (H9.out.2.2.2.2.2.2.2.2.2.1 q hq) st2.size
          have A := concat_any _ hlit hSW2 (by simp) hlenE
          have hflat : ([(kids.map kidE).take f7, placeE (tdones i1 ps) (Gs.map (mkN m)) i2, (kids.map kidE).drop b7] : List (List En)).flatten = (kids.map kidE).take f7 ++ placeE (tdones i1 ps) (Gs.map (mkN m)) i2 ++ (kids.map kidE).drop b7 := by simp
          rw [hflat] at A
          obtain ⟨E', hE'⟩ : ∃ E', E' = (kids.map kidE).take f7 ++ placeE (tdones i1 ps) (Gs.map (mkN m)) i2 ++ (kids.map kidE).drop b7 := ⟨_, rfl⟩
          rw [← hE'] at A
          have hfewE : Few E' := by
            have hk := EOk.few HP.out.2.2.2.2.1.1.2.2.2
            have hp := H8.out.2.2.2.2.2.2.2.2.1
            rw [← H9.out.2.2.2.2.2.2.2.1] at hp
            rw [hE']
            exact ((show Few ((kids.map kidE).take f7) from fun e he => hk e (List.mem_of_mem_take he)).append hp).append (fun e he => hk e (List.mem_of_mem_drop he))
          have hlE : E'.length ≤ 2000 := by
            rw [hE', List.length_append, List.length_append, List.length_take, List.length_drop]
            omega
          have hS2 := (HS.out W2).2 hb2
          have H10 := Lib.hid (And.intro hb2 (And.intro hE' (And.intro hfewE (And.intro hlE (And.intro hSW2 hW2)))))
          clear st2 hlit hpl hkl hlenE hSW2 hflat hE' hfewE hlE hb2 hW2 hS hD
          refine next_till 13 (by kernel_rfl) rfl (fun K hK => ?_)
          go_simp
          rw [← H10.out.2.2.2.2.2]
          refine hK.out _ _ (fun _ => hS2) ?_
          clear hK K
          refine next_till 14 (by kernel_rfl) rfl (fun K hK => ?_)
          go_simp
          refine A.mono ?_
          rintro e w10 ⟨v10, rfl, hv10, hb10, _⟩
          have hb9 : Below w9.heap.size w9 w10 := H10.out.1.trans (hb10.mono H10.out.1.size)
          have hS10 := (HS.out w10).2 hb9
          refine hK.out _ _ (fun _ => hS10) ?_
          clear hK K A hS2
          have HV := halved_any (lvl := m + 1) w10 hv10 H10.out.2.2.1 (by have := H10.out.2.2.2.1; omega) (fun q hq => Nat.lt_of_lt_of_le (H9.out.2.2.2.2.2.2.2.2.2.1 q hq) hb9.size)
          rw [show ((m + 1 : Nat) : Int) = lm by rw [HE.out.2.2.2.1]; norm_cast] at HV
          have H11 := Lib.hid hb9
          clear hv10 hb10 hb9
          refine next_till 15 (by kernel_rfl) rfl (fun K hK => ?_)
          go_simp
          refine HV.mono ?_
          rintro e w11 ⟨v11, Ls', rfl, hh, hr11, hb11⟩
          have hb9' : Below w9.heap.size w9 w11 := H11.out.trans (hb11.mono H11.out.size)
          have hS11 := (HS.out w11).2 hb9'
          refine hK.out _ _ (fun _ => hS11) ?_
          clear hK K HV hS10
          have H12 := Lib.hid (And.intro hh (And.intro hr11 hb9'))
          clear hh hr11 hb11 hb9'
          refine next_till 16 (by kernel_rfl) rfl (fun K hK => ?_)
          go_simp
          refine hK.out _ _ (fun _ => hS11) ?_
          clear hK K
          refine next_till 17 (by kernel_rfl) rfl (fun K hK => ?_)
          go_simp
          refine hK.out _ _ (fun _ => hS11) ?_
          clear hK K
          refine next_till 18 (by kernel_rfl) rfl (fun K hK => ?_)
          go_simp
          refine hK.out _ _ (fun _ => hS11) ?_
          clear hK K
          refine done_till (by kernel_rfl) ?_ _
          go_wp2
          go_ret3
          obtain ⟨hh, hr11, hb11⟩ := H12.out
          obtain ⟨h9, hst9, in9, hf, h1, h2, hcv, hi2, hcn9, hSW, hl9⟩ := H9.out
          obtain ⟨hst8, hin8, hg8, hz8, hX8, CG8, CZ8, hgr, hfe, hf7⟩ := H8.out
          obtain ⟨h5, hst5, hin5, hf5, hx5, hB5, h512, his, hi5⟩ := H5.out
          rw [List.length_map] at hi2
          have hgf := hgr.few
          rw [H10.out.2.1] at hh
          obtain ⟨pgs', hred, hpm⟩ := gr_up (own := ownP pg) (P := P) (pg := 0) rfl rfl hB5 hi2 hf HH.out.1.free (fun q hq => HH.out.1.in_ q (List.mem_append_right _ hq)) HP.out.2.2.1 HP.out.2.1 HP.out.2.2.2.2.2.2.2.1 rfl hgr (ed.rise HH.out.1.rise) (ed.prok HH.out.1.edok HP.out.1) HP.out.2.2.2.1 hh
          refine ⟨i1 + i2, ownP pg ++ X7, BL ++ placeB (Gs.map (mkN m)) i2, S9, tv9, bv9, xv7, h9.below hb11, hst9.bel hb11, fun q hq => in9 q (hin8 q hq), hf, by omega, by have := ownP_len pg; rw [List.length_append]; omega, ?_, fun b hb => ?_, .inr (.inr ⟨H4.out.2.2.2.2.2.2.trans his, v11, Ls', pgs', rfl, hr11, hred, hpm⟩)⟩
          · rw [List.length_append, placeB_length (by rw [List.length_map]; omega), hB5]
          · rcases List.mem_append.1 hb with hb | hb
            · exact h512 b hb
            · exact placeB_512 hgr.ok i2 b hb
        · clear PL u0 u1 u2
          rw [tdones_add, ← placeT_add] at h9
          rw [tdones_add] at hnone
          have hf := free_add H5.out.2.2.2.1 hf9
          have hst9 := H8.out.1.trans st9
          have H9 := Lib.hid (And.intro h9 (And.intro hst9 (And.intro in9 (And.intro hf (And.intro hlt hnone)))))
          clear h9 st9 hst9 in9 hf hf9 hlt hnone
          go_wp2
          go_ret3
          obtain ⟨h9, hst9, in9, hf, hlt, hnone⟩ := H9.out
          obtain ⟨hst8, hin8, hg8, hz8, hX8, CG8, CZ8, hgr, hfe, hf7⟩ := H8.out
          obtain ⟨h5, hst5, hin5, hf5, hx5, hB5, h512, his, hi5⟩ := H5.out
          rw [List.length_map] at hlt
          have hgf := hgr.few
          refine ⟨i1 + i2, ownP pg ++ X7, BL ++ placeB (Gs.map (mkN m)) i2, S9, tv9, bv9, xv7, h9, hst9, fun q hq => in9 q (hin8 q hq), hf, by omega, by have := ownP_len pg; rw [List.length_append]; omega, ?_, fun b hb => ?_, .inr (.inl ⟨H4.out.2.2.2.2.2.2.trans his, hnone, rfl⟩)⟩
          · rw [List.length_append, placeB_length (by rw [List.length_map]; omega), hB5]
          · rcases List.mem_append.1 hb with hb | hb
            · exact h512 b hb
            · exact placeB_512 hgr.ok i2 b hb

/-- Whatever the level. -/
theorem redo_any : ∀ (lvl : Nat) (w : World) (X0 : List Nat) (S : Nat → Prop) (tv bv xv : Value) (pg : Int) (nev ntv : Value) (es : List En) (nto : Bytes) (prs : List Pr) (pgs : List Nat), RedoH w tb db pb fr D ps wb top P X0 S F G tev ttv tv bv xv lvl pg nev ntv kv es nto prs pgs ed →
    Calls Tryz.prog 91 #[ptr wb, ndv pg (lvl : Int) nev ntv, kv, ed.v] w (Redoes w tb db pb fr D ps wb top X0 S F G tev ttv lvl (ownP pg) prs pgs ed)
  | 0, _, _, _, _, _, _, _, _, _, _, _, _, _, h => redo_leaf h
  | m + 1, _, _, _, _, _, _, _, _, _, _, _, _, _, h => redo_inner h (redo_any m)
end
end Go.Proofs.YtgekeemhbnhelaaGreat
