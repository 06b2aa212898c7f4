/-
  Package frame: addLine where the last run grows; addLine whole; addEnds.
-/
import Derived.Test.YtodnioihadpncaaDoorFrmC
import Derived.Test.YtodnioihadpncaaDoorFrmQ
namespace Go.Proofs.YtodnioihadpncaaDoor
open Go.RowKit
set_option linter.unusedSimpArgs false
set_option linter.unusedVariables false
set_option maxRecDepth 100000

/-- Behind the append to the last run's lines, and the store of what was answered. -/
theorem same_run {B g cap m cap4 g4 : Nat} {X : List (Prt × Value)} {x : Prt × Value} {s : ByteArray} {w w4 : World} (hB : B ≤ w.heap.size) (h : PartsOwn w B (.slice (some ⟨g, 0, none⟩) (m + 1) cap) X) (hX : X.length = m + 1) (hx : X[m]? = some x)
    (hr : w4.ownsRow B 9 1 (.slice (some ⟨g4, 0, none⟩) (x.1.ls.length + 1) cap4) (x.1.ls.length + 1) (strs x.1.ls ++ [.string s])) (hg : (w.alloc (.cells #[.string s] 9)).grownBy w4 x.2.ownBlock) (hat : x.2.ownBlock = some g4 ∨ g4 = w.heap.size + 1) :
    AddEnd B w ((X.map Prod.fst).set m { x.1 with ls := x.1.ls ++ [s.data.toList] }) (.returned (.slice (some ⟨g, 0, none⟩) (m + 1) cap)) (w4.setCell ⟨g, m * 5 + 4, none⟩ (.slice (some ⟨g4, 0, none⟩) (x.1.ls.length + 1) cap4)) := by
  have b1 : Below w.heap.size w (w.alloc (.cells #[.string s] 9)) := (Below.refl _ w).alloc (Nat.le_refl _) _
  have hs1 := alloc_size w (.cells #[.string s] 9)
  have h1 := h.below b1
  generalize w.alloc (.cells #[.string s] 9) = w1 at *
  obtain ⟨hml, hxe⟩ := List.getElem?_eq_some_iff.1 hx
  have hrow4 := h1.row.kept hg (own_apart h1.row (h1.ls m x hx) (by decide)).ne
  rw [← hX] at hrow4
  have hS := PartsOwn.setCell hrow4 hml (fun i z hz hne => (h1.ls i z hz).kept hg (h1.apart i m z x hz hx hne).ne) h1.apart (j := 4) (by omega) (.slice (some ⟨g4, 0, none⟩) (x.1.ls.length + 1) cap4)
    ({ x.1 with ls := x.1.ls ++ [s.data.toList] }, .slice (some ⟨g4, 0, none⟩) (x.1.ls.length + 1) cap4) (by rw [hxe]; rfl) (by
      rw [List.length_append, strs_append, strs_one, show (⟨s.data.toList.toArray⟩ : ByteArray) = s from Lib.mk_data s]; exact hr) (fun i z hz hne => by
      rcases hat with hat | hat
      · intro k hk
        have := h1.apart i m z x hz hx hne k hk
        rw [hat] at this
        exact this
      · exact apart_new (h1.ls i z hz) (by omega) _ _)
  obtain ⟨g', cap', cur, e, hbg, _, _, _, hblk, _⟩ := own_block hrow4 (by omega)
  cases e
  have bg := below_of_grown (B := B) hg (fun k hk => ((h1.ls m x hx).lt k hk).1) (by omega)
  rw [hX] at hS
  refine ⟨_, _, rfl, hS, ?_, ?_, ?_⟩
  · rw [List.map_set]
  · exact ((IntsKept.of_below b1).trans (IntsKept.of_grown (h1.ls m x hx) (by decide) hg)).trans (IntsKept.of_set hblk (by decide) _ _)
  · exact ((b1.mono hB).trans bg).trans ((Below.refl B w4).setCell (p := ⟨g, m * 5 + 4, none⟩) hbg _)

theorem own_keep {B g cap m N : Nat} {X : List (Prt × Value)} {x : Prt × Value} {w w4 : World} {o : Obj} {A : Option Addr} {L ca : Nat} (h : PartsOwn w B (.slice (some ⟨g, 0, none⟩) N cap) X) (hx : X[m]? = some x) (e2 : x.2 = .slice A L ca)
    (hg : (w.alloc o).grownBy w4 (Value.slice A L ca).ownBlock) : (∀ j u, w.cell? ⟨g, j, none⟩ = some u → w4.cell? ⟨g, j, none⟩ = some u) ∧ ∀ j, w4.frozen? ⟨g, j, none⟩ = false := by
  have hb : ∃ cur, w.heap[g]? = some (.cells cur 32 (0, 0)) := by
    rcases h.row.2 with ⟨e, _⟩ | ⟨g', cap', cur, e, _, hg, _⟩
    · cases e
    · cases e; exact ⟨cur, hg⟩
  obtain ⟨cur, hb⟩ := hb
  have hlt := (Array.getElem?_eq_some_iff.1 hb).1
  have hh : w4.heap[g]? = w.heap[g]? := by
    rw [← e2] at hg
    rw [hg.block g (by rw [alloc_size]; omega) (fun e => own_ne (h.ls m x hx) hb (by decide) e.symm), Below.heap_alloc w _ g hlt]
  exact ⟨fun j u hu => by simpa [World.cell?, hh] using hu, fun j => by simp [World.frozen?, hh, hb]⟩

set_option maxHeartbeats 4000000 in
theorem addLine_same (B : Nat) (v : Value) (X : List (Prt × Value)) (d : Nat) (s : ByteArray) (w : World) (hB : B ≤ w.heap.size) (h : PartsOwn w B v X) (hm : X.length ≤ 1000000) (m : Nat) (hX : X.length = m + 1) (x : Prt × Value) (hx : X[m]? = some x)
    (hdv : x.1.dv = false) (hdp : x.1.depth = d) (hls : x.1.ls.length ≤ 1000000) :
    Calls Tryd.prog 22 #[v, .int .i64 d, .string s] w (AddEnd B w ((X.map Prod.fst).set m { x.1 with ls := x.1.ls ++ [s.data.toList] })) := by
  obtain ⟨i0, hi, hz0, hz1, hz2⟩ := info_parts infoString
  obtain ⟨hml, hxe⟩ := List.getElem?_eq_some_iff.1 hx
  obtain ⟨g, cap, cur, rfl, hbg, hlt, hcap, hcm, hblk, hc⟩ := own_block h.row (by omega)
  have hc0 := hc _ _ (psC_get X m (by omega) 0 (.int .i64 x.1.depth) (by rw [hxe]; rfl))
  have hc1 := hc _ _ (psC_get X m (by omega) 1 (.bool x.1.dv) (by rw [hxe]; rfl))
  have hc4 := hc _ _ (psC_get X m (by omega) 4 x.2 (by rw [hxe]; rfl))
  have hfz := own_frozen hblk (m * 5 + 4)
  have hrow := h.ls m _ hx
  rw [hdv] at hc1
  rw [hdp, Nat.add_zero] at hc0
  obtain ⟨A, ca, e2, hra, _⟩ := RowOf.own hrow
  rw [e2] at hc4 hrow
  unfold maxLen at hcm
  have HH := Lib.hid h
  have hnw := cells_one w (.string s) 9
  have hrow2 := hrow.alloc (.cells #[.string s] 9)
  clear h hc hra hdv hdp hxe hml
  generalize hN : X.length = N at *
  subst hX
  have HX := Lib.hid hN
  clear hN
  go_enter Tryd.func22, Tryd.ntmps22
  go_wp2_with (at_builtin; refine wpList_append_lies _ rfl _ _ 22 rfl B 9 i0 (.string ByteArray.empty) 1 16 Tryd.underlying22 hi hz0 hz1 hz2 rfl (by decide) _ _ _ rfl hrow2 ⟨w.heap.size, 0, none⟩ 1 1 [.string s] rfl rfl hnw (by simp [Value.oneCell']) (by omega) (by unfold maxLen; omega) (by omega) (by simp; omega) (w.heap.size + 1) (by simp) ?_)
  intro g4 cap4 w4 hown4 hgrow4 hat4 hlt4
  have hk := (own_keep HH.out hx e2 hgrow4)
  have hc44 := hk.1 (m * 5 + 4) _ hc4
  have hf44 := hk.2 (m * 5 + 4)
  have HR := Lib.hid (same_run hB HH.out HX.out hx hown4 (by rw [e2]; exact hgrow4) (by rw [e2]; exact hat4))
  clear hown4 hgrow4 hat4 hlt4 hk
  go_wp2
  go_ret
  exact HR.out

theorem set_last {ys : List Prt} {p q : Prt} {m : Nat} (h : ys.length = m) : (ys ++ [p]).set m q = ys ++ [q] := by
  subst h
  rw [List.set_append_right _ _ (Nat.le_refl _), Nat.sub_self]
  rfl
theorem addLine_any (B : Nat) (v : Value) (X : List (Prt × Value)) (d : Nat) (s : ByteArray) (w : World) (hB : B ≤ w.heap.size) (h : PartsOwn w B v X) (hm : X.length ≤ 1000000) (hls : ∀ x ∈ X, x.1.ls.length ≤ 1000000) :
    Calls Tryd.prog 22 #[v, .int .i64 d, .string s] w (AddEnd B w (addLn (X.map Prod.fst) d s.data.toList)) := by
  cases hg : (X.map Prod.fst).getLast? with
  | none =>
    rw [addLn_none _ _ hg]
    rw [List.getLast?_eq_none_iff, List.map_eq_nil_iff] at hg
    exact addLine_new B v X d s w hB h hm (Or.inl hg)
  | some p =>
    by_cases hp : p.dv = true ∨ p.depth ≠ d
    · rw [addLn_new _ _ hg hp]
      exact addLine_new B v X d s w hB h hm (Or.inr ⟨p, hg, hp⟩)
    · obtain ⟨ys, e⟩ := List.getLast?_eq_some_iff.1 hg
      have hl : X.length = ys.length + 1 := by have := congrArg List.length e; simpa using this
      have hx : X[ys.length]? = some X[ys.length] := List.getElem?_eq_getElem (by omega)
      have hxp : X[ys.length].1 = p := by
        have h1 : (X.map Prod.fst)[ys.length]? = some p := by rw [e]; simp
        rw [List.getElem?_map, hx] at h1
        simpa using h1
      have hp1 : p.dv = false := by cases h : p.dv <;> simp [h] at hp ⊢
      have hp2 : p.depth = d := by
        by_cases e : p.depth = d
        · exact e
        · exact absurd (Or.inr e) hp
      have := addLine_same B v X d s w hB h hm ys.length hl X[ys.length] hx (by rw [hxp]; exact hp1) (by rw [hxp]; exact hp2) (hls _ (List.getElem_mem _))
      rw [hxp, e, set_last rfl] at this
      rw [e, addLn_same _ _ hp1 hp2]
      exact this

/-! ### How long all this is -/
structure PBound (n : Nat) (st : List Prt × List Nat) : Prop where
  a : st.1.length ≤ n
  b : st.2.length ≤ n
  c : ∀ j ∈ st.2, j < st.1.length
  d : ∀ p ∈ st.1, p.ls.length ≤ n
theorem addLn_len (ps : List Prt) (d : Nat) (s : Txt) : ps.length ≤ (addLn ps d s).length ∧ (addLn ps d s).length ≤ ps.length + 1 := by
  cases hg : ps.getLast? with
  | none => rw [addLn_none _ _ hg]; simp
  | some p =>
    by_cases hp : p.dv = true ∨ p.depth ≠ d
    · rw [addLn_new _ _ hg hp]; simp
    · obtain ⟨ys, rfl⟩ := List.getLast?_eq_some_iff.1 hg
      have hp1 : p.dv = false := by cases h : p.dv <;> simp [h] at hp ⊢
      have hp2 : p.depth = d := by
        by_cases e : p.depth = d
        · exact e
        · exact absurd (Or.inr e) hp
      rw [addLn_same _ _ hp1 hp2]; simp
theorem addLn_ls (ps : List Prt) (d n : Nat) (s : Txt) (h : ∀ p ∈ ps, p.ls.length ≤ n) : ∀ p ∈ addLn ps d s, p.ls.length ≤ n + 1 := by
  intro q hq
  cases hg : ps.getLast? with
  | none =>
    rw [addLn_none _ _ hg, List.mem_append, List.mem_singleton] at hq
    rcases hq with hq | rfl
    · have := h q hq; omega
    · simp
  | some p =>
    by_cases hp : p.dv = true ∨ p.depth ≠ d
    · rw [addLn_new _ _ hg hp, List.mem_append, List.mem_singleton] at hq
      rcases hq with hq | rfl
      · have := h q hq; omega
      · simp
    · obtain ⟨ys, rfl⟩ := List.getLast?_eq_some_iff.1 hg
      have hp1 : p.dv = false := by cases h : p.dv <;> simp [h] at hp ⊢
      have hp2 : p.depth = d := by
        by_cases e : p.depth = d
        · exact e
        · exact absurd (Or.inr e) hp
      rw [addLn_same _ _ hp1 hp2, List.mem_append, List.mem_singleton] at hq
      rcases hq with hq | rfl
      · have := h q (by simp [hq]); omega
      · have := h p (by simp); simp; omega
theorem shut_len (ps : List Prt) (i : Nat) : (shut ps i).length = ps.length := by unfold shut; simp
theorem shut_ls (ps : List Prt) (i n : Nat) (h : ∀ p ∈ ps, p.ls.length ≤ n) : ∀ p ∈ shut ps i, p.ls.length ≤ n := by
  intro q hq
  obtain ⟨j, hj, rfl⟩ := List.mem_iff_getElem.1 hq
  have hj2 := hj
  rw [shut_len] at hj2
  have e : (shut ps i)[j] = if i = j then { ps[j] with opn := false } else ps[j] := by
    have h1 : (shut ps i)[j]? = some (if i = j then { ps[j] with opn := false } else ps[j]) := by
      unfold shut
      rw [List.getElem?_modify, List.getElem?_eq_getElem hj2]
      split <;> simp_all
    exact (List.getElem?_eq_some_iff.1 h1).2
  rw [e]
  have h2 := h _ (List.getElem_mem hj2)
  split <;> exact h2
theorem step_bound {n : Nat} {st : List Prt × List Nat} (h : PBound n st) (s : Txt) : PBound (n + 1) (stepP st s) := by
  obtain ⟨a, b, c, d⟩ := h
  unfold stepP
  cases opensL s with
  | some lab =>
    refine ⟨by simp; omega, by simp; omega, fun j hj => ?_, fun p hp => ?_⟩
    · simp at hj ⊢
      rcases hj with hj | hj
      · have := c j hj; omega
      · omega
    · simp at hp
      rcases hp with hp | rfl
      · have := d p hp; omega
      · simp
  | none =>
    dsimp only
    split
    · refine ⟨by rw [shut_len]; omega, by simp; omega, fun j hj => ?_, fun p hp => ?_⟩
      · rw [shut_len]; exact c j (List.dropLast_subset _ hj)
      · have := shut_ls _ _ n d p hp; omega
    · have h1 := addLn_len st.1 st.2.length s
      refine ⟨by show (addLn _ _ _).length ≤ _; omega, by show st.2.length ≤ _; omega, fun j hj => ?_, fun p hp => addLn_ls _ _ n s d p hp⟩
      have := c j hj
      show j < (addLn _ _ _).length
      omega
theorem parseF_take (ls : List Txt) (k : Nat) (hk : k < ls.length) : parseF ([], []) (ls.take (k + 1)) = stepP (parseF ([], []) (ls.take k)) ls[k] := by
  rw [List.take_succ_eq_append_getElem hk, parseF_append]; rfl
theorem parse_bound (ls : List Txt) : ∀ k, k ≤ ls.length → PBound k (parseF ([], []) (ls.take k))
  | 0, _ => ⟨by simp [parseF], by simp [parseF], by simp [parseF], by simp [parseF]⟩
  | k + 1, h => by rw [parseF_take ls k (by omega)]; exact step_bound (parse_bound ls k (by omega)) _

/-! ### Ends -/
def EndRel (B : Nat) (ls : List Txt) (n : Nat) (w : World) (v i : Value) (wr : World) : Prop :=
  ∃ k : Nat, i = .int .i64 k ∧ k ≤ n ∧ B ≤ wr.heap.size ∧ wr.ownsRow B 9 1 v (ls ++ ends k).length (strs (ls ++ ends k)) ∧ Below B w wr
theorem strs_ends (ls : List Txt) (k : Nat) : strs (ls ++ ends k) ++ [Value.string ⟨#[58, 58, 58]⟩] = strs (ls ++ ends (k + 1)) := by
  rw [ends_succ, ← List.append_assoc, strs_append (ls ++ ends k)]; rfl

set_option maxHeartbeats 4000000 in
theorem addEnds_any (B : Nat) (v : Value) (ls : List Txt) (n : Int) (w : World) (hB : B ≤ w.heap.size) (h : w.ownsRow B 9 1 v ls.length (strs ls)) (hm : ls.length ≤ 1000000) (hn : n ≤ 1000000) :
    Calls Tryd.prog 23 #[v, .int .i64 n] w fun e w' => ∃ v', e = .returned v' ∧ w'.ownsRow B 9 1 v' (ls ++ ends n.toNat).length (strs (ls ++ ends n.toNat)) ∧ Below B w w' := by
  obtain ⟨i0, hi, hz0, hz1, hz2⟩ := info_parts infoString
  by_cases hn0 : n ≤ 0
  · have e0 : n.toNat = 0 := by omega
    rw [e0, ends_zero, List.append_nil]
    clear e0
    go_enter Tryd.func23, Tryd.ntmps23
    go_wp2_with fail
    go_loopw [0, 6] (fun u i wr => u = v ∧ i = .int .i64 0 ∧ wr = w) (fun _ _ _ => 0)
    case atStart => exact ⟨rfl, rfl, rfl⟩
    case round =>
      obtain ⟨rfl, rfl, rfl⟩ := hrel
      go_wp2
      go_ret
      exact ⟨_, rfl, h, Below.refl _ _⟩
  · obtain ⟨m, rfl⟩ : ∃ m : Nat, n = m := ⟨n.toNat, by omega⟩
    rw [Int.toNat_natCast]
    go_enter Tryd.func23, Tryd.ntmps23
    go_wp2_with fail
    go_loopw [0, 6] (fun u i wr => EndRel B ls m w u i wr) (fun _ i _ => m - (intOf i).toNat)
    case atStart => exact ⟨0, rfl, Nat.zero_le _, hB, by rw [ends_zero, List.append_nil]; exact h, Below.refl _ _⟩
    case round =>
      obtain ⟨k, rfl, hk, hBr, hown, hbw⟩ := hrel
      by_cases hp : k < m
      · have hnw := cells_one wr (.string ⟨#[58, 58, 58]⟩) 9
        have hl : (ls ++ ends k).length = ls.length + k := by simp [ends]
        have hrow2 := hown.alloc (.cells #[.string ⟨#[58, 58, 58]⟩] 9)
        have HS := Lib.hid (strs_ends ls k)
        have HL := Lib.hid (show (ls ++ ends (k + 1)).length = ls.length + k + 1 from by simp [ends]; omega)
        go_wp2_with (at_builtin; refine wpList_append_own _ rfl _ _ 22 rfl B 9 i0 (.string ByteArray.empty) 1 16 Tryd.underlying22 hi hz0 hz1 hz2 rfl (by decide) _ _ _ rfl hrow2 ⟨wr.heap.size, 0, none⟩ 1 1 [.string ⟨#[58, 58, 58]⟩] rfl rfl hnw (by simp [Value.oneCell']) (by unfold maxLen; omega) (by omega) (by simp; omega) ?_)
        intro v' w2 hown' hgrow _
        rw [HS.out, ← HL.out] at hown'
        have hb2 := (hbw.trans (((Below.refl _ wr).alloc (Nat.le_refl _) _).mono hBr)).trans (below_of_grown hgrow (fun g hg => (hrow2.lt g hg).1) (by simp; omega))
        have hs2 := hgrow.size
        have hs3 := alloc_size wr (.cells #[.string ⟨#[58, 58, 58]⟩] 9)
        have HO := Lib.hid hown'
        have HB := Lib.hid hb2
        clear hown' hgrow hb2 hbw hrow2 hown hl
        go_wp2
        go_roundw
        case rel => exact ⟨k + 1, by go_num, by omega, by omega, HO.out, HB.out⟩
        case measure => simp [intOf]; omega
      · obtain rfl : k = m := by omega
        go_wp2
        go_ret
        exact ⟨_, rfl, hown, hbw⟩

end Go.Proofs.YtodnioihadpncaaDoor
