/-
  Package emph: opener: the nearest place that may open.
-/
import Derived.Test.YtoomkhmmgjiniaaEmG
import Derived.Deep.RegionHeld3
import Derived.Lib.MinMax
import Derived.BigQuiet
namespace Go.Proofs.Ytoomkhmmgjiniaa
open Go.RowKit Go.Maps Go.ChangeShapes
set_option linter.unusedSimpArgs false
set_option linter.unusedVariables false
set_option maxRecDepth 100000

theorem zeroInts (w : World) : (zeroValue 39).run Try.prog w = .ok (.slice none 0 0) w := by kernel_rfl
/-- The look-up, in every world that keeps the map's block. -/
theorem groups_look {w : World} {base bm n : Nat} {D : DU} (h : w.ownsGroups Try.prog 60 base 3 .i64 bm n D) (hn : n < maxLen) (sg : UInt8) (b : Bool) (r : Int) (hr : -2 ≤ r ∧ r ≤ 2) :
    ∃ v zs, (∀ w' : World, w'.heap[bm]? = w.heap[bm]? → (Instr.lookup 38 (.map (some bm)) (kindV sg b r) false).run Try.prog w' = .ok v w') ∧ D.atKey (kLit sg b r) .nil = rowDatum .i64 v zs ∧ w.ownsInts base 3 .i64 v zs ∧ zs.length ≤ n ∧
      w.groupBack Try.prog 38 60 base 3 .i64 bm n D (kindV sg b r) (kLit sg b r) v ∧ (∀ No : Nat → Prop, w.Shuns bm No → ∀ g, v.ownBlock = some g → ¬ No g) := by
  have hkey := keyOf_kind sg b r hr
  obtain ⟨v, zs, hrun, hat, hoi, hzl, hback⟩ := h.at keyLaw Try.underlying38 (zeroInts w) hn hkey
  have hsh : ∀ No : Nat → Prop, w.Shuns bm No → ∀ g, v.ownBlock = some g → ¬ No g := by
    obtain ⟨es, clock, hb, F, _⟩ := h
    rcases Maps.fit_look false keyLaw Try.underlying38 (zeroInts w) hb F hkey with ⟨hrun', _, _⟩ | ⟨e0, y, hm0, _, hrun', _, _, _⟩
    · rw [hrun] at hrun'
      obtain rfl : v = .slice none 0 0 := by simpa using hrun'
      intro _ _ g hg'
      cases hg'
    · rw [hrun] at hrun'
      obtain rfl : v = e0.val := by simpa using hrun'
      exact fun No hs g hg' => hs es clock hb e0 hm0 g hg'
  obtain ⟨es, clock, hb, F, _⟩ := h
  have F0 : WideElems.Fit Try.prog 60 (fun v => some ((.held v : DataW Value), ([] : List MemPlace))) es clock := ⟨F.size, F.stamped, fun x hx => by
    obtain ⟨y, hy⟩ := F.reads x hx
    exact ⟨(y.1, .held x.val), by simp [WideElems.rd, WideElems.rd_key hy]⟩⟩
  have one : ∀ w' : World, w'.heap[bm]? = w.heap[bm]? → ∃ u, (Instr.lookup 38 (.map (some bm)) (kindV sg b r) false).run Try.prog w' = .ok u w' ∧
      (DataW.map ((es.toList.map (WideElems.rg Try.prog 60 (fun v => some ((.held v : DataW Value), ([] : List MemPlace))))).foldr DataW.insert [])).atKey (kLit sg b r) (.held (.slice none 0 0)) = .held u := by
    intro w' hw'
    rcases Maps.fit_look false keyLaw Try.underlying38 (zeroInts w') (hw'.trans hb) F0 hkey with ⟨h1, _, h2⟩ | ⟨e0, y, _, _, h1, hy, h2, _⟩
    · exact ⟨_, h1, h2 _⟩
    · refine ⟨_, h1, ?_⟩
      rw [h2]
      cases hy
      rfl
  obtain ⟨u, h1, h2⟩ := one w rfl
  rw [hrun] at h1
  obtain rfl : v = u := by simpa using h1
  refine ⟨v, zs, fun w' hw' => ?_, hat, hoi, hzl, hback, hsh⟩
  obtain ⟨u', h3, h4⟩ := one w' hw'
  rw [h2] at h4
  cases h4
  exact h3

/-- The greatest of those of which S holds; -1. -/
def IsBest (S : Nat → Prop) (v : Int) : Prop := (v = -1 ∧ ∀ i, ¬ S i) ∨ ∃ i : Nat, v = i ∧ S i ∧ ∀ j, S j → j ≤ i
theorem IsBest.congr {S S' : Nat → Prop} {v : Int} (h : IsBest S v) (e : ∀ i, S' i ↔ S i) : IsBest S' v := by
  rcases h with ⟨h1, h2⟩ | ⟨i, h1, h2, h3⟩
  · exact Or.inl ⟨h1, fun i hi => h2 i ((e i).1 hi)⟩
  · exact Or.inr ⟨i, h1, (e i).2 h2, fun j hj => h3 j ((e j).1 hj)⟩
theorem IsBest.ge {S : Nat → Prop} {v : Int} (h : IsBest S v) : -1 ≤ v ∧ (v = -1 ∨ ∃ i : Nat, v = i ∧ S i) := by
  rcases h with ⟨rfl, _⟩ | ⟨i, rfl, h, _⟩
  · exact ⟨Int.le_refl _, Or.inl rfl⟩
  · exact ⟨by omega, Or.inr ⟨i, rfl, h⟩⟩
theorem IsBest.add {S S' : Nat → Prop} {v : Int} (h : IsBest S v) {m : Nat} {T : Nat → Prop} (e : ∀ i, S' i ↔ S i ∨ T i) (hT : T m) (hm : ∀ j, T j → j ≤ m) : IsBest S' (max v m) := by
  rcases h with ⟨rfl, h2⟩ | ⟨i, rfl, h2, h3⟩
  · refine Or.inr ⟨m, by omega, (e m).2 (Or.inr hT), fun j hj => ?_⟩
    rcases (e j).1 hj with h4 | h4
    · exact absurd h4 (h2 j)
    · exact hm j h4
  · rcases Nat.le_total i m with hle | hle
    · refine Or.inr ⟨m, by omega, (e m).2 (Or.inr hT), fun j hj => ?_⟩
      rcases (e j).1 hj with h4 | h4
      · exact Nat.le_trans (h3 j h4) hle
      · exact hm j h4
    · refine Or.inr ⟨i, by omega, (e i).2 (Or.inl h2), fun j hj => ?_⟩
      rcases (e j).1 hj with h4 | h4
      · exact h3 j h4
      · exact Nat.le_trans (hm j h4) hle
/-- The last of ascending places is the greatest. -/
theorem last_best {L : List Nat} (h : L.Pairwise (· < ·)) (hne : L ≠ []) : ∀ j ∈ L, j ≤ L.getLast hne := by
  intro j hj
  obtain ⟨i, hi, rfl⟩ := List.getElem_of_mem hj
  rw [List.getLast_eq_getElem]
  rcases Nat.lt_or_ge i (L.length - 1) with h1 | h1
  · exact Nat.le_of_lt (List.pairwise_iff_getElem.1 h i (L.length - 1) hi (by omega) h1)
  · have e : i = L.length - 1 := by omega
    simp only [e, Nat.le_refl]

/-- What has been asked: kinds by whether they both open and close (q of them), and by the rest (k of them). -/
def proc (q k : Nat) (b : Bool) (r : Int) : Prop := 0 ≤ r ∧ r < 3 ∧ (b.toNat < q ∨ b.toNat = q ∧ r < k)
def SAt (ps : List Pc) (ops : List Nat) (sg : UInt8) (b2 : Bool) (r2 : Int) (q k : Nat) (i : Nat) : Prop := i ∈ ops ∧ ∃ b r, proc q k b r ∧ kAt ps sg b r i = true ∧ fitK sg b r b2 r2 = true
theorem proc_next {q k : Nat} {bq : Bool} (hq : bq.toNat = q) (hk : k < 3) (b : Bool) (r : Int) : proc q (k + 1) b r ↔ proc q k b r ∨ (b = bq ∧ r = k) := by
  unfold proc
  constructor
  · rintro ⟨h1, h2, h3 | ⟨h3, h4⟩⟩
    · exact Or.inl ⟨h1, h2, Or.inl h3⟩
    · by_cases e : r = k
      · refine Or.inr ⟨?_, e⟩
        have : b.toNat = bq.toNat := by rw [h3, hq]
        revert this
        cases b <;> cases bq <;> simp
      · exact Or.inl ⟨h1, h2, Or.inr ⟨h3, by omega⟩⟩
  · rintro (⟨h1, h2, h3 | ⟨h3, h4⟩⟩ | ⟨rfl, rfl⟩)
    · exact ⟨h1, h2, Or.inl h3⟩
    · exact ⟨h1, h2, Or.inr ⟨h3, by omega⟩⟩
    · exact ⟨by omega, by omega, Or.inr ⟨hq, by omega⟩⟩
theorem proc_row {q : Nat} (b : Bool) (r : Int) : proc q 3 b r ↔ proc (q + 1) 0 b r := by
  unfold proc
  constructor
  · rintro ⟨h1, h2, h3 | ⟨h3, h4⟩⟩
    · exact ⟨h1, h2, Or.inl (by omega)⟩
    · exact ⟨h1, h2, Or.inl (by omega)⟩
  · rintro ⟨h1, h2, h3 | ⟨h3, h4⟩⟩
    · by_cases e : b.toNat = q
      · exact ⟨h1, h2, Or.inr ⟨e, by omega⟩⟩
      · exact ⟨h1, h2, Or.inl (by omega)⟩
    · omega
theorem sat_next {ps : List Pc} {ops : List Nat} {sg : UInt8} {b2 : Bool} {r2 : Int} {q k : Nat} {bq : Bool} (hq : bq.toNat = q) (hk : k < 3) (i : Nat) :
    SAt ps ops sg b2 r2 q (k + 1) i ↔ SAt ps ops sg b2 r2 q k i ∨ (i ∈ ops.filter (kAt ps sg bq k) ∧ fitK sg bq k b2 r2 = true) := by
  unfold SAt
  constructor
  · rintro ⟨h1, b, r, hp, h2, h3⟩
    rcases (proc_next hq hk b r).1 hp with hp | ⟨rfl, rfl⟩
    · exact Or.inl ⟨h1, b, r, hp, h2, h3⟩
    · exact Or.inr ⟨List.mem_filter.2 ⟨h1, h2⟩, h3⟩
  · rintro (⟨h1, b, r, hp, h2, h3⟩ | ⟨h1, h3⟩)
    · exact ⟨h1, b, r, (proc_next hq hk b r).2 (Or.inl hp), h2, h3⟩
    · obtain ⟨h1, h2⟩ := List.mem_filter.1 h1
      exact ⟨h1, bq, k, (proc_next hq hk bq k).2 (Or.inr ⟨rfl, rfl⟩), h2, h3⟩
theorem sat_row {ps : List Pc} {ops : List Nat} {sg : UInt8} {b2 : Bool} {r2 : Int} {q : Nat} (i : Nat) : SAt ps ops sg b2 r2 (q + 1) 0 i ↔ SAt ps ops sg b2 r2 q 3 i := by
  unfold SAt
  constructor
  · rintro ⟨h1, b, r, hp, h2⟩
    exact ⟨h1, b, r, (proc_row b r).2 hp, h2⟩
  · rintro ⟨h1, b, r, hp, h2⟩
    exact ⟨h1, b, r, (proc_row b r).1 hp, h2⟩
theorem sat_start {ps : List Pc} {ops : List Nat} {sg : UInt8} {b2 : Bool} {r2 : Int} : IsBest (SAt ps ops sg b2 r2 0 0) (-1) := by
  refine Or.inl ⟨rfl, fun i => ?_⟩
  rintro ⟨_, b, r, ⟨h1, h2, h3 | ⟨h3, h4⟩⟩, _⟩
  · omega
  · omega

def BoxK (w wr : World) (sg : UInt8) (b2 : Bool) (r2 : Int) : Prop := wr.heap[w.heap.size]? = some (.cells #[.int .u8 sg.toNat, .bool b2, .int .i64 r2] 60 (0, 0))
theorem BoxK.cells {w wr : World} {sg : UInt8} {b2 : Bool} {r2 : Int} (h : BoxK w wr sg b2 r2) : wr.cell? ⟨w.heap.size, 0, none⟩ = some (.int .u8 sg.toNat) ∧ wr.cell? ⟨w.heap.size, 1, none⟩ = some (.bool b2) ∧ wr.cell? ⟨w.heap.size, 2, none⟩ = some (.int .i64 r2) ∧ w.heap.size < wr.heap.size :=
  ⟨(cell_of_row _ _ 0 _ _ (0, 0) h).trans rfl, (cell_of_row _ _ 1 _ _ (0, 0) h).trans rfl, (cell_of_row _ _ 2 _ _ (0, 0) h).trans rfl, (Array.getElem?_eq_some_iff.1 h).1⟩
theorem BoxK.below {w wr w2 : World} {sg : UInt8} {b2 : Bool} {r2 : Int} (h : BoxK w wr sg b2 r2) (hb : Below wr.heap.size wr w2) : BoxK w w2 sg b2 r2 := (hb.block _ h.cells.2.2.2).trans h
def OpRel (ps : List Pc) (ops : List Nat) (sg : UInt8) (b2 : Bool) (r2 : Int) (w : World) (q : Nat) (s t : Value) (wr : World) : Prop :=
  ∃ (k : Nat) (v : Int), s = .int .i64 v ∧ t = .int .i64 k ∧ k ≤ 3 ∧ IsBest (SAt ps ops sg b2 r2 q k) v ∧ Below w.heap.size w wr ∧ BoxK w wr sg b2 r2
def OpRel0 (ps : List Pc) (ops : List Nat) (sg : UInt8) (b2 : Bool) (r2 : Int) (w : World) (s t : Value) (wr : World) : Prop :=
  ∃ (q : Nat) (v qi : Int), s = .int .i64 v ∧ t = .int .i64 qi ∧ qi = q ∧ q ≤ 2 ∧ IsBest (SAt ps ops sg b2 r2 q 0) v ∧ Below w.heap.size w wr ∧ BoxK w wr sg b2 r2
set_option maxHeartbeats 4000000 in
theorem opener_any {w : World} {b bp bm cap n : Nat} {D : DU} {Ps : List Pm} {ops opsM : List Nat} {ov : Value} (h : PrSt w b bp bm cap n D Ps ops opsM ov) (ha : opsM.Pairwise (· < ·)) (hops : ∀ i ∈ opsM, i < Ps.length)
    (sg : UInt8) (b2 : Bool) (r2 : Int) (hr2 : -2 ≤ r2 ∧ r2 ≤ 2) :
    Calls Try.prog 30 #[.pointer (some ⟨b, 0, none⟩), kindV sg b2 r2] w fun e w' => (∃ v : Int, e = .returned (.int .i64 v) ∧ IsBest (SAt (Ps.map Prod.fst) opsM sg b2 r2 2 0) v) ∧ Below w.heap.size w w' := by
  have hcnt := h.cnt
  have hsm := h.small
  have hln := h.len
  have hbc := h.bcells
  have HH := Lib.hid h
  clear h
  generalize hps : Ps.map Prod.fst = ps at *
  unfold kindV
  have hix0 : ∀ W : World, (Instr.index 77 (.agg #[.bool false, .bool true]) (.int .i64 0)).run Try.prog W = .ok (.bool false) W := fun W => by kernel_rfl
  have hix1 : ∀ W : World, (Instr.index 77 (.agg #[.bool false, .bool true]) (.int .i64 1)).run Try.prog W = .ok (.bool true) W := fun W => by kernel_rfl
  go_enter Try.func30, Try.ntmps30
  go_wp2_with fail
  go_loopw [5, 12] (fun s t wr => OpRel0 ps opsM sg b2 r2 w s t wr) (fun _ t _ => 2 - (intOf t).toNat)
  case atStart => exact ⟨0, -1, 0, rfl, rfl, rfl, by omega, sat_start, (Below.refl _ w).alloc (Nat.le_refl _) _, heap_alloc_new _ _⟩
  case round =>
    obtain ⟨q, v, qi, rfl, rfl, hqi, hq, hbest, hbw, hbox⟩ := hrel
    have HBest := Lib.hid hbest
    clear hbest
    have hq3 : q = 0 ∨ q = 1 ∨ q = 2 := by omega
    rcases hq3 with rfl | rfl | rfl
    · obtain rfl : qi = 0 := by omega
      clear hqi
      go_wp2_with fail
      go_loopw [5, 15] (fun s t wr => OpRel ps opsM sg b2 r2 w 0 s t wr) (fun _ t _ => 3 - (intOf t).toNat)
      case atStart => exact ⟨0, v, rfl, rfl, by omega, HBest.out, hbw, hbox⟩
      case round =>
        obtain ⟨k, v, rfl, rfl, hk, hbest, hbw, hbox⟩ := hrel
        have hge := hbest.ge
        have HBest := Lib.hid hbest
        have HBW := Lib.hid hbw
        have HBox := Lib.hid hbox
        clear hbest
        by_cases hk3 : k < 3
        · obtain ⟨gv, zs, hrun, hat, hoi, hzl, _, _⟩ := groups_look HH.out.fam.grp (by unfold maxLen; omega) sg false (k : Int) (by omega)
          have hzs : zs = natI (opsM.filter (kAt ps sg false k)) := by
            have h1 := HH.out.kd.2 sg false (k : Int) (by omega) (by omega)
            rw [hat, zsOf_row hoi] at h1
            rw [h1, ← hps]
            rfl
          have HS := Lib.hid (sat_next (ps := ps) (ops := opsM) (sg := sg) (b2 := b2) (r2 := r2) (q := 0) (k := k) (bq := false) rfl hk3)
          have HP := Lib.hid (ha.filter (kAt ps sg false k))
          generalize opsM.filter (kAt ps sg false k) = L at *
          subst hzs
          have hcf := fun W => fits_any sg sg false b2 (k : Int) r2 W (by omega) hr2
          have bA := (Below.refl _ wr).alloc (Nat.le_refl _) (.cells #[.int .u8 sg.toNat, .bool false, .int .i64 k] 60)
          have hbA : Below w.heap.size w _ := hbw.then bA
          have hsA := alloc_size wr (.cells #[.int .u8 sg.toNat, .bool false, .int .i64 k] 60)
          obtain ⟨x0, x1, x2⟩ := box3 wr (.int .u8 sg.toNat) (.bool false) (.int .i64 k) 60
          obtain ⟨n0, n1, n2, _⟩ := hbox.cells
          obtain ⟨y0, y1, y2, hyl⟩ := (hbox.below bA).cells
          have hc2 := (hbA.cell (p := ⟨b, 2, none⟩) hbc.2.2.2.2).trans hbc.2.2.1
          have hlk : ∀ j, (Instr.lookup 38 (.map (some bm)) (.agg #[.int .u8 sg.toNat, .bool false, .int .i64 k]) false).run Try.prog ((wr.alloc (.cells #[.int .u8 sg.toNat, .bool false, .int .i64 k] 60)).drewN j) = .ok gv ((wr.alloc (.cells #[.int .u8 sg.toNat, .bool false, .int .i64 k] 60)).drewN j) := fun j =>
            hrun _ (hbA.block bm (fam_lt HH.out.fam))
          have HBA := Lib.hid bA
          have HG := Lib.hid hoi
          clear hrun hat hoi hbw hbox
          unfold kindV at hcf
          rcases L with _ | ⟨i0, L'⟩
          · obtain ⟨Ag, cg, rfl, _⟩ := own_form HG.out.1
            have HE := Lib.hid (HBest.out.congr (S' := SAt ps opsM sg b2 r2 0 (k + 1)) (fun i => by rw [HS.out i]; simp))
            have hl0 : (natI []).length = 0 := rfl
            clear HG HP
            go_wp2_with fail
            go_quiet (fail)
            go_wp2
            go_roundw
            case rel => exact ⟨k + 1, v, rfl, by go_num, by omega, HE.out, HBW.out.then (below_drewN' HBA.out _), HBox.out.below (below_drewN' HBA.out _)⟩
            case measure => simp [intOf]; omega
          · have hne : (i0 :: L') ≠ [] := by simp
            have hmx := last_best HP.out hne
            have hmem := List.getLast_mem hne
            obtain ⟨g, c, rfl, hbg, hgl⟩ := HG.out.1.form (by simp [natI])
            have hlen : (natI (i0 :: L')).length = L'.length + 1 := by simp [natI]
            have hcl := HG.out.1.cellAt L'.length (by rw [hlen]; omega)
            rw [List.getElem?_map, natI, List.getElem?_map, List.getElem?_eq_getElem (by simp)] at hcl
            have hgl1 : (i0 :: L')[L'.length]'(by simp) = (i0 :: L').getLast hne := by rw [List.getLast_eq_getElem]; simp
            rw [hgl1] at hcl
            simp only [Option.map_some] at hcl
            generalize (i0 :: L').getLast hne = m at *
            have HM := Lib.hid (And.intro hmx hmem)
            have hL : L'.length + 1 ≤ n := by rw [← hlen]; exact hzl
            have hcA := (hbA.cell (p := ⟨g, L'.length, none⟩) hgl).trans hcl
            clear hmx hmem hgl1 hcl HG HP hne hzl
            rw [hlen] at hlk
            cases hfk : fitK sg false (k : Int) b2 r2 with
            | false =>
              have HE := Lib.hid (HBest.out.congr (S' := SAt ps opsM sg b2 r2 0 (k + 1)) (fun i => by rw [HS.out i, hfk]; simp))
              rw [hfk] at hcf
              clear hfk
              go_wp2_with fail
              go_quiet (fail)
              go_wp2_with fail
              refine (hcf _).mono ?_
              rintro e w3 ⟨rfl, b3⟩
              go_wp2
              go_roundw
              case rel => exact ⟨k + 1, v, rfl, by go_num, by omega, HE.out, (HBW.out.then (below_drewN' HBA.out _)).then b3, (HBox.out.below (below_drewN' HBA.out _)).below b3⟩
              case measure => simp [intOf]; omega
            | true =>
              have HE := Lib.hid (HBest.out.add (S' := SAt ps opsM sg b2 r2 0 (k + 1)) (m := m) (T := fun i => i ∈ i0 :: L') (fun i => by rw [HS.out i, hfk]; simp) HM.out.2 HM.out.1)
              rw [hfk] at hcf
              clear hfk
              obtain ⟨mv, hmv⟩ : ∃ mv, max v (m : Int) = mv := ⟨_, rfl⟩
              rw [hmv] at HE
              go_wp2_with fail
              go_quiet (fail)
              go_wp2_with fail
              refine (hcf _).mono ?_
              rintro e w3 ⟨rfl, b3⟩
              have hc3 := (b3.cell (p := ⟨g, L'.length, none⟩) (by simp; omega)).trans hcA
              go_wp2
              go_roundw
              case rel => exact ⟨k + 1, mv, rfl, by go_num, by omega, HE.out, (HBW.out.then (below_drewN' HBA.out _)).then b3, (HBox.out.below (below_drewN' HBA.out _)).below b3⟩
              case measure => simp [intOf]; omega
        · obtain rfl : k = 3 := by omega
          have HE := Lib.hid (HBest.out.congr (S' := SAt ps opsM sg b2 r2 1 0) (fun i => sat_row (q := 0) i))
          clear hbw hbox
          go_wp2
          go_roundw
          case rel => exact ⟨1, v, 1, rfl, by go_num, rfl, by omega, HE.out, HBW.out, HBox.out⟩
          case measure => simp [intOf]
    · obtain rfl : qi = 1 := by omega
      clear hqi
      go_wp2_with fail
      go_loopw [5, 15] (fun s t wr => OpRel ps opsM sg b2 r2 w 1 s t wr) (fun _ t _ => 3 - (intOf t).toNat)
      case atStart => exact ⟨0, v, rfl, rfl, by omega, HBest.out, hbw, hbox⟩
      case round =>
        obtain ⟨k, v, rfl, rfl, hk, hbest, hbw, hbox⟩ := hrel
        have hge := hbest.ge
        have HBest := Lib.hid hbest
        have HBW := Lib.hid hbw
        have HBox := Lib.hid hbox
        clear hbest
        by_cases hk3 : k < 3
        · obtain ⟨gv, zs, hrun, hat, hoi, hzl, _, _⟩ := groups_look HH.out.fam.grp (by unfold maxLen; omega) sg true (k : Int) (by omega)
          have hzs : zs = natI (opsM.filter (kAt ps sg true k)) := by
            have h1 := HH.out.kd.2 sg true (k : Int) (by omega) (by omega)
            rw [hat, zsOf_row hoi] at h1
            rw [h1, ← hps]
            rfl
          have HS := Lib.hid (sat_next (ps := ps) (ops := opsM) (sg := sg) (b2 := b2) (r2 := r2) (q := 1) (k := k) (bq := true) rfl hk3)
          have HP := Lib.hid (ha.filter (kAt ps sg true k))
          generalize opsM.filter (kAt ps sg true k) = L at *
          subst hzs
          have hcf := fun W => fits_any sg sg true b2 (k : Int) r2 W (by omega) hr2
          have bA := (Below.refl _ wr).alloc (Nat.le_refl _) (.cells #[.int .u8 sg.toNat, .bool true, .int .i64 k] 60)
          have hbA : Below w.heap.size w _ := hbw.then bA
          have hsA := alloc_size wr (.cells #[.int .u8 sg.toNat, .bool true, .int .i64 k] 60)
          obtain ⟨x0, x1, x2⟩ := box3 wr (.int .u8 sg.toNat) (.bool true) (.int .i64 k) 60
          obtain ⟨n0, n1, n2, _⟩ := hbox.cells
          obtain ⟨y0, y1, y2, hyl⟩ := (hbox.below bA).cells
          have hc2 := (hbA.cell (p := ⟨b, 2, none⟩) hbc.2.2.2.2).trans hbc.2.2.1
          have hlk : ∀ j, (Instr.lookup 38 (.map (some bm)) (.agg #[.int .u8 sg.toNat, .bool true, .int .i64 k]) false).run Try.prog ((wr.alloc (.cells #[.int .u8 sg.toNat, .bool true, .int .i64 k] 60)).drewN j) = .ok gv ((wr.alloc (.cells #[.int .u8 sg.toNat, .bool true, .int .i64 k] 60)).drewN j) := fun j =>
            hrun _ (hbA.block bm (fam_lt HH.out.fam))
          have HBA := Lib.hid bA
          have HG := Lib.hid hoi
          clear hrun hat hoi hbw hbox
          unfold kindV at hcf
          rcases L with _ | ⟨i0, L'⟩
          · obtain ⟨Ag, cg, rfl, _⟩ := own_form HG.out.1
            have HE := Lib.hid (HBest.out.congr (S' := SAt ps opsM sg b2 r2 1 (k + 1)) (fun i => by rw [HS.out i]; simp))
            have hl0 : (natI []).length = 0 := rfl
            clear HG HP
            go_wp2_with fail
            go_quiet (fail)
            go_wp2
            go_roundw
            case rel => exact ⟨k + 1, v, rfl, by go_num, by omega, HE.out, HBW.out.then (below_drewN' HBA.out _), HBox.out.below (below_drewN' HBA.out _)⟩
            case measure => simp [intOf]; omega
          · have hne : (i0 :: L') ≠ [] := by simp
            have hmx := last_best HP.out hne
            have hmem := List.getLast_mem hne
            obtain ⟨g, c, rfl, hbg, hgl⟩ := HG.out.1.form (by simp [natI])
            have hlen : (natI (i0 :: L')).length = L'.length + 1 := by simp [natI]
            have hcl := HG.out.1.cellAt L'.length (by rw [hlen]; omega)
            rw [List.getElem?_map, natI, List.getElem?_map, List.getElem?_eq_getElem (by simp)] at hcl
            have hgl1 : (i0 :: L')[L'.length]'(by simp) = (i0 :: L').getLast hne := by rw [List.getLast_eq_getElem]; simp
            rw [hgl1] at hcl
            simp only [Option.map_some] at hcl
            generalize (i0 :: L').getLast hne = m at *
            have HM := Lib.hid (And.intro hmx hmem)
            have hL : L'.length + 1 ≤ n := by rw [← hlen]; exact hzl
            have hcA := (hbA.cell (p := ⟨g, L'.length, none⟩) hgl).trans hcl
            clear hmx hmem hgl1 hcl HG HP hne hzl
            rw [hlen] at hlk
            cases hfk : fitK sg true (k : Int) b2 r2 with
            | false =>
              have HE := Lib.hid (HBest.out.congr (S' := SAt ps opsM sg b2 r2 1 (k + 1)) (fun i => by rw [HS.out i, hfk]; simp))
              rw [hfk] at hcf
              clear hfk
              go_wp2_with fail
              go_quiet (fail)
              go_wp2_with fail
              refine (hcf _).mono ?_
              rintro e w3 ⟨rfl, b3⟩
              go_wp2
              go_roundw
              case rel => exact ⟨k + 1, v, rfl, by go_num, by omega, HE.out, (HBW.out.then (below_drewN' HBA.out _)).then b3, (HBox.out.below (below_drewN' HBA.out _)).below b3⟩
              case measure => simp [intOf]; omega
            | true =>
              have HE := Lib.hid (HBest.out.add (S' := SAt ps opsM sg b2 r2 1 (k + 1)) (m := m) (T := fun i => i ∈ i0 :: L') (fun i => by rw [HS.out i, hfk]; simp) HM.out.2 HM.out.1)
              rw [hfk] at hcf
              clear hfk
              obtain ⟨mv, hmv⟩ : ∃ mv, max v (m : Int) = mv := ⟨_, rfl⟩
              rw [hmv] at HE
              go_wp2_with fail
              go_quiet (fail)
              go_wp2_with fail
              refine (hcf _).mono ?_
              rintro e w3 ⟨rfl, b3⟩
              have hc3 := (b3.cell (p := ⟨g, L'.length, none⟩) (by simp; omega)).trans hcA
              go_wp2
              go_roundw
              case rel => exact ⟨k + 1, mv, rfl, by go_num, by omega, HE.out, (HBW.out.then (below_drewN' HBA.out _)).then b3, (HBox.out.below (below_drewN' HBA.out _)).below b3⟩
              case measure => simp [intOf]; omega
        · obtain rfl : k = 3 := by omega
          have HE := Lib.hid (HBest.out.congr (S' := SAt ps opsM sg b2 r2 2 0) (fun i => sat_row (q := 1) i))
          clear hbw hbox
          go_wp2
          go_roundw
          case rel => exact ⟨2, v, 2, rfl, by go_num, rfl, by omega, HE.out, HBW.out, HBox.out⟩
          case measure => simp [intOf]
    · obtain rfl : qi = 2 := by omega
      clear hqi
      go_wp2
      go_ret
      exact ⟨⟨v, rfl, HBest.out⟩, hbw⟩

end Go.Proofs.Ytoomkhmmgjiniaa
