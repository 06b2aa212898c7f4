/-
  Package emph: Merge.
-/
import Derived.Test.YtoomkhmmgjiniaaEmD
namespace Go.Proofs.Ytoomkhmmgjiniaa
open Go.RowKit
set_option linter.unusedSimpArgs false
set_option linter.unusedVariables false
set_option maxRecDepth 100000

theorem words_run (out : List Iln) (d : Int) : ∀ (Z : List Iln) (s : List UInt8), (∀ x ∈ Z, x.kd = 1 ∧ x.dp = d ∧ x.txt ≠ []) → Z.foldl mergeOne (out ++ [wordsI d s]) = out ++ [wordsI d (s ++ textI Z)]
  | [], s, _ => by simp [textI]
  | x :: Z, s, h => by
    obtain ⟨h1, h2, h3⟩ := h x (by simp)
    have e : mergeOne (out ++ [wordsI d s]) x = out ++ [wordsI d (s ++ x.txt)] := by
      rw [mergeOne_snoc, if_pos h1, if_neg h3, if_pos ⟨rfl, h2.symm⟩]
      rfl
    rw [List.foldl_cons, e, words_run out d Z _ (fun z hz => h z (by simp [hz])), textI_cons]
    have : ilText x = x.txt := by unfold ilText; rw [if_pos (Or.inl h1)]
    rw [this, List.append_assoc]
theorem words_first (out : List Iln) (y : Iln) (h1 : y.kd = 1) (h3 : y.txt ≠ []) (he : endsAt out y.dp = false) : mergeOne out y = out ++ [wordsI y.dp y.txt] := by
  rcases List.eq_nil_or_concat out with rfl | ⟨p, z, rfl⟩
  · rw [mergeOne_nil, if_pos h1, if_neg h3]; rfl
  · rw [List.concat_eq_append] at he ⊢
    rw [endsAt_snoc] at he
    rw [mergeOne_snoc, if_pos h1, if_neg h3, if_neg (fun h => by simp [h.1, h.2] at he)]
theorem emI_no {x : Iln} (h : emI x = false) (h1 : x.kd = 1) : x.txt ≠ [] := by
  unfold emI at h
  simp [h1] at h
  exact h
theorem merge_chunk {y : Iln} {Y out : List Iln} (hk : y.kd = 1) (hne : ∀ x ∈ y :: Y, emI x = false) (he : endsAt out y.dp = false) :
    1 ≤ (y :: Y).findIdx (togI y) ∧ ((y :: Y).take ((y :: Y).findIdx (togI y))).foldl mergeOne out = out ++ [wordsI y.dp (textI ((y :: Y).take ((y :: Y).findIdx (togI y))))] := by
  have h0 : togI y y = false := by simp [togI, hk]
  have e1 : (y :: Y).findIdx (togI y) = Y.findIdx (togI y) + 1 := by rw [List.findIdx_cons, h0]; rfl
  rw [e1]
  refine ⟨by omega, ?_⟩
  rw [List.take_succ_cons, List.foldl_cons, words_first out y hk (emI_no (hne y (by simp)) hk) he, words_run out y.dp _ y.txt, textI_cons]
  · have : ilText y = y.txt := by unfold ilText; rw [if_pos (Or.inl hk)]
    rw [this]
  · intro x hx
    obtain ⟨i, hi, rfl⟩ := List.getElem_of_mem hx
    rw [List.length_take] at hi
    rw [List.getElem_take]
    have := List.not_of_lt_findIdx (p := togI y) (xs := Y) (i := i) (by omega)
    simp [togI] at this
    exact ⟨this.1, this.2, emI_no (hne _ (by simp)) this.1⟩
theorem merge_next {y : Iln} {Y out : List Iln} {s : List UInt8} (z : Iln) (hz : ((y :: Y).drop ((y :: Y).findIdx (togI y))).head? = some z) (h1 : z.kd = 1) : endsAt (out ++ [wordsI y.dp s]) z.dp = false := by
  rw [endsAt_snoc]
  rw [List.head?_drop] at hz
  obtain ⟨hlt, hz⟩ := List.getElem?_eq_some_iff.1 hz
  have := List.findIdx_getElem (p := togI y) (w := hlt)
  rw [hz] at this
  simp [togI, h1] at this
  simp [wordsI]
  exact fun e => this e.symm
theorem merge_other {y : Iln} {out : List Iln} (h : y.kd ≠ 1) (d : Int) : mergeOne out y = out ++ [y] ∧ endsAt (out ++ [y]) d = false := by
  refine ⟨by unfold mergeOne; rw [if_neg h], ?_⟩
  rw [endsAt_snoc]
  simp [h]

theorem inl_box {W : World} {g : Nat} {c0 c1 c2 c3 c4 : Value} {t : TypeId} (h : W.heap[g]? = some (.cells #[c0, c1, c2, c3, c4] t (0, 0))) :
    (W.cell? ⟨g, 0, none⟩ = some c0 ∧ W.cell? ⟨g, 1, none⟩ = some c1 ∧ W.cell? ⟨g, 2, none⟩ = some c2 ∧ W.cell? ⟨g, 3, none⟩ = some c3 ∧ W.cell? ⟨g, 4, none⟩ = some c4) ∧
    (W.frozen? ⟨g, 0, none⟩ = false ∧ W.frozen? ⟨g, 1, none⟩ = false ∧ W.frozen? ⟨g, 2, none⟩ = false ∧ W.frozen? ⟨g, 3, none⟩ = false ∧ W.frozen? ⟨g, 4, none⟩ = false) :=
  ⟨⟨(cell_of_row W g 0 _ _ (0, 0) h).trans rfl, (cell_of_row W g 1 _ _ (0, 0) h).trans rfl, (cell_of_row W g 2 _ _ (0, 0) h).trans rfl, (cell_of_row W g 3 _ _ (0, 0) h).trans rfl, (cell_of_row W g 4 _ _ (0, 0) h).trans rfl⟩,
    by simp [World.frozen?, h], by simp [World.frozen?, h], by simp [World.frozen?, h], by simp [World.frozen?, h], by simp [World.frozen?, h]⟩
theorem setc_grown (w : World) (g j : Nat) (u : Value) : w.grownBy (w.setCell ⟨g, j, none⟩ u) (some g) :=
  ⟨rfl, rfl, rfl, by simp, fun k _ hk => heap_setCell_other w ⟨g, j, none⟩ k u (fun e => hk (by simp [e]))⟩
theorem box5_set {W : World} {g : Nat} {a0 a1 a2 a3 a4 : Value} {t : TypeId} (h : W.heap[g]? = some (.cells #[a0, a1, a2, a3, a4] t (0, 0))) (c0 c1 c2 c3 c4 : Value) (W' : World)
    (hW : W' = ((((W.setCell ⟨g, 0, none⟩ c0).setCell ⟨g, 1, none⟩ c1).setCell ⟨g, 2, none⟩ c2).setCell ⟨g, 3, none⟩ c3).setCell ⟨g, 4, none⟩ c4) :
    W'.heap[g]? = some (.cells #[c0, c1, c2, c3, c4] t (0, 0)) ∧ W.grownBy W' (some g) := by
  subst hW
  refine ⟨by simp [World.setCell, Array.getElem?_modify, h], ((((setc_grown _ _ _ _).trans (setc_grown _ _ _ _)).trans (setc_grown _ _ _ _)).trans (setc_grown _ _ _ _)).trans (setc_grown _ _ _ _)⟩
theorem words_agg (d : Int) (s : List UInt8) (w : World) : Calls Try.prog 18 #[.int .i64 d, .string ⟨s.toArray⟩] w fun e w' => e = .returned (.agg #[.int .i64 1, .int .i64 d, .string ⟨s.toArray⟩, .string ⟨#[]⟩, .string ⟨#[]⟩]) ∧ Below w.heap.size w w' := words_any d s w
def slLen : Value → Nat
  | .slice _ n _ => n
  | _ => 0
def MgRel (X : List Iln) (w2 : World) (mv lv : Value) (wr : World) : Prop :=
  ∃ (L out : List Iln) (A : Option Addr) (c : Nat), lv = .slice A L.length c ∧ InlsAt w2 A c L ∧ wr.ownsRow w2.heap.size 30 5 mv out.length (flt ilC out) ∧ Below w2.heap.size w2 wr ∧ L.foldl mergeOne out = mergeI X ∧
    (∀ z, L.head? = some z → z.kd = 1 → endsAt out z.dp = false) ∧ (∀ x ∈ L, emI x = false) ∧ (textI L).length ≤ 140737488355328 ∧ out.length + L.length ≤ 100000000
theorem some_text (X : List Iln) : textI (someI X) = textI X := by rw [← mergeI_text, mergeI_some, mergeI_text]
set_option maxHeartbeats 4000000 in
theorem merge_any (A : Option Addr) (cap : Nat) (X : List Iln) (w : World) (hrow : InlsAt w A cap X) (hn : X.length ≤ 100000000) (ht : (textI X).length ≤ 140737488355328) :
    Calls Try.prog 8 #[.slice A X.length cap] w fun e w' => ∃ v, e = .returned v ∧ w'.ownsRow w.heap.size 30 5 v (mergeI X).length (flt ilC (mergeI X)) ∧ Below w.heap.size w w' := by
  have cc := clone_inls A cap X w hrow hn
  have hlX := some_len X
  have htX := some_text X
  have hsn : ∀ x ∈ someI X, emI x = false := fun x hx => by
    rw [some_is] at hx
    simpa using (List.mem_filter.1 hx).2
  obtain ⟨i0, hi, hz0, hz1, hz2⟩ := info_parts infoInl
  have HSN := Lib.hid hsn
  have HTX := Lib.hid htX
  have HLX := Lib.hid hlX
  clear hsn htX hrow hlX
  go_enter Try.func8, Try.ntmps8
  go_wp2_with fail
  refine cc.mono ?_
  rintro e w1 ⟨v1, rfl, ho1, b1⟩
  have hs1 := b1.size
  have cd := delete_any w.heap.size v1 X w1 b1.size ho1 hn
  clear ho1
  go_wp2_with fail
  refine cd.mono ?_
  rintro e w2 ⟨v2, rfl, ho2, b2⟩
  have hs2 := b2.size
  obtain ⟨A2, c2, rfl, hr2⟩ := EltsAt.own ilC_length ho2
  have HR2 := Lib.hid hr2
  have HB2 := Lib.hid (b1.trans b2)
  clear ho2 hr2 b2
  go_wp2_with fail
  go_loopw [3, 4] (fun mv lv wr => MgRel X w2 mv lv wr) (fun _ lv _ => slLen lv)
  case atStart =>
    exact ⟨someI X, [], A2, c2, rfl, HR2.out, World.ownsRow_nil _ _ _ _, Below.refl _ _, foldl_some X [], fun z _ _ => rfl, HSN.out, by rw [HTX.out]; exact ht, by have := HLX.out; simp; omega⟩
  case round =>
    obtain ⟨L, out, AL, cL, rfl, hrL, hown, hbw, hfo, hhd, hne, htl, hle⟩ := hrel
    have hcl := hrL.le
    have hcm := hrL.cap
    unfold maxLen at hcm
    have hsw := hbw.size
    cases L with
    | nil =>
      have HO := Lib.hid hown
      have HF := Lib.hid (show out = mergeI X from hfo)
      clear hown hfo hhd hrL hne
      go_wp2
      go_ret
      exact ⟨_, rfl, by rw [← HF.out]; exact own_low HO.out (by omega), HB2.out.trans (hbw.mono (by omega))⟩
    | cons y Y =>
      obtain ⟨b, off, rfl, hb, c0, c1, c2, c3, c4⟩ := InlsAt.cells5 (EltsAt.below hrL hbw) (k := 0) (by simp)
      simp only [List.getElem_cons_zero, Nat.zero_mul, Nat.add_zero] at c0 c1 c2 c3 c4
      have HRL := Lib.hid hrL
      have HO := Lib.hid hown
      have HF := Lib.hid hfo
      have HH := Lib.hid hhd
      have HN := Lib.hid hne
      have HBW := Lib.hid hbw
      have hY : (y :: Y).length = Y.length + 1 := rfl
      clear hrL hown hfo hhd hne hbw
      obtain ⟨x0, x1, x2, x3, x4⟩ := box5 wr (.int .i64 y.kd) (.int .i64 y.dp) (.string ⟨y.txt.toArray⟩) (.string ⟨y.url.toArray⟩) (.string ⟨y.ttl.toArray⟩) 30
      have bA := (Below.refl _ wr).alloc (Nat.le_refl _) (.cells #[.int .i64 y.kd, .int .i64 y.dp, .string ⟨y.txt.toArray⟩, .string ⟨y.url.toArray⟩, .string ⟨y.ttl.toArray⟩] 30)
      have hsA := alloc_size wr (.cells #[.int .i64 y.kd, .int .i64 y.dp, .string ⟨y.txt.toArray⟩, .string ⟨y.url.toArray⟩, .string ⟨y.ttl.toArray⟩] 30)
      by_cases hk : y.kd = 1
      · have hk2 : (y.kd == 1) = true := by simpa using hk
        obtain ⟨m1, m2⟩ := merge_chunk hk HN.out (HH.out y rfl hk)
        have HM := Lib.hid m2
        have HX := Lib.hid (fun s z => merge_next (y := y) (Y := Y) (out := out) (s := s) z)
        have ctg := together_any (some ⟨b, off, none⟩) cL y Y _ (EltsAt.below HRL.out (HBW.out.alloc (by omega) (.cells #[.int .i64 y.kd, .int .i64 y.dp, .string ⟨y.txt.toArray⟩, .string ⟨y.url.toArray⟩, .string ⟨y.ttl.toArray⟩] 30)))
        have hnl := List.findIdx_le_length (p := togI y) (xs := y :: Y)
        generalize (y :: Y).findIdx (togI y) = n at *
        have HBA := Lib.hid bA
        clear bA m2 hk
        go_wp2_with fail
        refine ctg.mono ?_
        rintro e w3 ⟨rfl, b3⟩
        have hs3 := b3.size
        have y0 := (b3.cell (p := ⟨wr.heap.size, 0, none⟩) (by show wr.heap.size < _; omega)).trans x0
        have y1 := (b3.cell (p := ⟨wr.heap.size, 1, none⟩) (by show wr.heap.size < _; omega)).trans x1
        have y2 := (b3.cell (p := ⟨wr.heap.size, 2, none⟩) (by show wr.heap.size < _; omega)).trans x2
        have y3 := (b3.cell (p := ⟨wr.heap.size, 3, none⟩) (by show wr.heap.size < _; omega)).trans x3
        have y4 := (b3.cell (p := ⟨wr.heap.size, 4, none⟩) (by show wr.heap.size < _; omega)).trans x4
        have hbx : w3.heap[wr.heap.size]? = some (.cells #[.int .i64 y.kd, .int .i64 y.dp, .string ⟨y.txt.toArray⟩, .string ⟨y.url.toArray⟩, .string ⟨y.ttl.toArray⟩] 30 (0, 0)) := (b3.block _ (by omega)).trans (heap_alloc_new _ _)
        have hb3 : Below w2.heap.size w2 w3 := (HBW.out.alloc (by omega) _).trans (b3.mono (by omega))
        have HB3 := Lib.hid hb3
        have hown3 := ownsRow_below (HO.out.alloc (.cells #[.int .i64 y.kd, .int .i64 y.dp, .string ⟨y.txt.toArray⟩, .string ⟨y.url.toArray⟩, .string ⟨y.ttl.toArray⟩] 30)) b3
        have HO3 := Lib.hid hown3
        have hncL : n ≤ cL := by omega
        have htk : ((y :: Y).take n).length = n := by rw [List.length_take]; omega
        have hte := textI_le (y :: Y) n
        have ctx := fun (W : World) (hb : Below w3.heap.size w3 W) => text_inl (some ⟨b, off, none⟩) cL ((y :: Y).take n) W (InlsAt.takeL (EltsAt.below HRL.out (hb3.trans (hb.mono (by omega)))) n) (by omega)
        rw [htk] at ctx
        have CT := Lib.hid ctx
        have HBX := Lib.hid hbx
        clear ctx hb3 b3 hown3 x0 x1 x2 x3 x4 ctg c0 c1 c2 c3 c4 hbx
        generalize textI ((y :: Y).take n) = tx at *
        go_wp2_with fail
        go_region_law (first | (go_simp; go_at_call 10; refine (CT.out _ (Below.refl _ w3).drew).mono ?_; rintro e w4 ⟨rfl, b4⟩; have hs4 : w3.heap.size ≤ w4.heap.size := b4.size; have hbx4 := (b4.block wr.heap.size (by show _ < w3.heap.size; omega)).trans HBX.out; obtain ⟨⟨z0, z1, z2, z3, z4⟩, f0, f1, f2, f3, f4⟩ := inl_box hbx4) | (go_simp; go_at_call 18; refine (words_agg y.dp tx _).mono ?_; rintro e w5 ⟨rfl, b5⟩; have hs5 := b5.size; have hbx5 := (b5.block wr.heap.size (by omega)).trans hbx4; obtain ⟨⟨v0, v1, v2, v3, v4⟩, e0, e1, e2, e3, e4⟩ := inl_box hbx5))
        all_goals
          obtain ⟨w6, hw6⟩ : ∃ w6, w6 = (((((w5.setCell ⟨wr.heap.size, 0, none⟩ (.int .i64 1)).setCell ⟨wr.heap.size, 1, none⟩ (.int .i64 y.dp)).setCell ⟨wr.heap.size, 2, none⟩ (.string ⟨tx.toArray⟩)).setCell ⟨wr.heap.size, 3, none⟩ (.string ⟨#[]⟩)).setCell ⟨wr.heap.size, 4, none⟩ (.string ⟨#[]⟩)) := ⟨_, rfl⟩
          rw [← hw6]
          obtain ⟨hbx6, hg6⟩ := box5_set hbx5 _ _ _ _ _ w6 hw6
          have hb5 : Below w3.heap.size w3 w5 := (Below.refl _ w3).drew.trans ((b4.mono (by show _ ≤ w3.heap.size; omega)).trans (b5.mono (by omega)))
          have hb6 : Below w2.heap.size w2 w6 := (HB3.out.trans (hb5.mono (by omega))).grown hg6 (by omega) (fun k hk => by cases hk; omega)
          have hb36 : w6.heap.size = w5.heap.size := by rw [hw6]; simp [World.setCell]
          have hO6 := (ownsRow_below HO3.out hb5).kept hg6 (Or.inr (fun e => by have := (HO.out.lt _ e).2; omega))
          obtain ⟨⟨q0, q1, q2, q3, q4⟩, _⟩ := inl_box hbx6
          have HO6 := Lib.hid hO6
          have HB6 := Lib.hid hb6
          have hnc := elt_cells w6 (ilC (wordsI y.dp tx)) 30
          have hs6 : wr.heap.size < w6.heap.size := by omega
          clear hO6 hb6 hbx6 hg6 hb36 hw6 hb5 b4 b5 z0 z1 z2 z3 z4 f0 f1 f2 f3 f4 v0 v1 v2 v3 v4 e0 e1 e2 e3 e4 hbx4 hbx5 y0 y1 y2 y3 y4
          have hl1 := islice_low (some ⟨b, off, none⟩) (Y.length + 1) cL n (by omega)
          go_wp2_with (at_builtin; refine wpList_append_own _ rfl _ _ 24 rfl w2.heap.size 30 i0 (.agg #[.int .i64 0, .int .i64 0, .string ByteArray.empty, .string ByteArray.empty, .string ByteArray.empty]) 5 64 Try.underlying24 hi hz0 hz1 hz2 rfl (by decide) _ out.length (flt ilC out) rfl (HO6.out.alloc _) ⟨w6.heap.size, 0, none⟩ 1 1 (ilC (wordsI y.dp tx)) rfl rfl hnc (ilC_one _) (by unfold maxLen; omega) (by omega) (by simp; omega) ?_)
          intro v' w7 hown' hgrow _
          have HO7 := Lib.hid hown'
          have HB7 := Lib.hid ((HB6.out.alloc (by omega) _).grown hgrow (by simp; omega) (fun k hk => (HO.out.lt k hk).1))
          clear hown' hgrow
          go_wp2
          go_roundw
          case rel =>
            refine ⟨(y :: Y).drop n, out ++ [wordsI y.dp tx], _, cL - n, by rw [List.length_drop]; rfl, InlsAt.dropL HRL.out (by omega), ?_, HB7.out, ?_, fun z hz h1 => HX.out _ z hz h1, fun x hx => HN.out x (List.mem_of_mem_drop hx), ?_, ?_⟩
            · rw [flt_append, flt_one, List.length_append]; exact HO7.out
            · rw [← HM.out, ← List.foldl_append, List.take_append_drop]; exact HF.out
            · have := congrArg List.length (show textI (y :: Y) = textI ((y :: Y).take n) ++ textI ((y :: Y).drop n) from by rw [← textI_append, List.take_append_drop])
              rw [List.length_append] at this
              omega
            · rw [List.length_append, List.length_drop]; simp; simp at hle; omega
          case measure => simp [slLen]; omega
      · have hk2 : (y.kd == 1) = false := by simpa using hk
        have hnc := elt_cells wr (ilC y) 30
        have hnc2 : ∀ j u, (ilC y)[j]? = some u → ((wr.alloc (.cells (ilC y).toArray 30)).alloc (.cells (ilC y).toArray 30)).cell? ((⟨wr.heap.size + 1, 0, none⟩ : Addr).add j) = some u := fun j u hu => by
          have := elt_cells (wr.alloc (.cells (ilC y).toArray 30)) (ilC y) 30 j u hu
          rwa [alloc_size] at this
        have hl1 := islice_low (some ⟨b, off, none⟩) (Y.length + 1) cL 1 (by omega)
        have HA := Lib.hid (HO.out.alloc (.cells (ilC y).toArray 30))
        obtain ⟨m1, m2⟩ := merge_other (out := out) hk 0
        have HM := Lib.hid (fun d => merge_other (out := out) hk d)
        have HK := Lib.hid hk
        clear hk m1 m2 hnc
        go_wp2_with (at_builtin; refine wpList_append_own _ rfl _ _ 24 rfl w2.heap.size 30 i0 (.agg #[.int .i64 0, .int .i64 0, .string ByteArray.empty, .string ByteArray.empty, .string ByteArray.empty]) 5 64 Try.underlying24 hi hz0 hz1 hz2 rfl (by decide) _ out.length (flt ilC out) rfl (HA.out.alloc _) ⟨wr.heap.size + 1, 0, none⟩ 1 1 (ilC y) rfl rfl hnc2 (ilC_one y) (by unfold maxLen; omega) (by omega) (by simp; omega) ?_)
        intro v' w3 hown' hgrow _
        have hb3 : Below w2.heap.size w2 w3 := ((HBW.out.alloc (by omega) _).alloc (by simp; omega) _).grown hgrow (by simp; omega) (fun k hk => (HO.out.lt k hk).1)
        have HB3 := Lib.hid hb3
        have HO3 := Lib.hid hown'
        clear hown' hgrow hb3
        go_wp2
        go_roundw
        case rel =>
          refine ⟨Y, out ++ [y], _, cL - 1, rfl, InlsAt.dropL HRL.out (k := 1) (by simp), ?_, HB3.out, ?_, fun z _ _ => (HM.out z.dp).2, fun x hx => HN.out x (by simp [hx]), ?_, by simp; simp at hle; omega⟩
          · rw [flt_append, flt_one, List.length_append]; exact HO3.out
          · rw [← (HM.out 0).1]; exact HF.out
          · rw [textI_cons, List.length_append] at htl; omega
        case measure => simp [slLen]

end Go.Proofs.Ytoomkhmmgjiniaa
