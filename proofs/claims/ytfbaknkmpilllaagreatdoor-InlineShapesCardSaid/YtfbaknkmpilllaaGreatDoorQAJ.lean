/- Texts joined: InC Byt InD InE BookA DfA BlkT TgtEp TgtB MaxL DnL. -/
import Derived.Test.YtfbaknkmpilllaaGreatDoorQAA
import Derived.Test.YtfbaknkmpilllaaGreatDoorQAI
import Derived.Test.YtfbaknkmpilllaaGreatDoorQAC
import Derived.Laws.BytesArg
import Derived.Laws.IdiomStrings
import Derived.Test.YtfbaknkmpilllaaGreatDoorQAD
import Derived.Maps.AppendAt
import Derived.RegionTactic
import Derived.Test.YtfbaknkmpilllaaGreatDoorQAF
import Derived.Deep.AppendLies
import Derived.Deep.RegionHeld3
import Derived.BigRegion
import Derived.Maps.Range
import Derived.ArgAppend
import Derived.OwnWalk
import Derived.WalkKit
import Derived.BigCall
import Derived.BigQuiet
import Derived.Deep.QuietTactic
import Derived.Lib.Hide
import Derived.Lib.SlTrimSet
import Derived.Lib.Bytealg
import Derived.Lib.Strings
namespace Go.Proofs.YtfbaknkmpilllaaGreatDoor
open Go.RowKit Go.Maps
set_option linter.unusedSimpArgs false
set_option linter.unusedVariables false
set_option maxRecDepth 100000
/-- A place behind which another byte stands. -/
abbrev HopX (s : ByteArray) := {x : Nat // x + 1 < s.size}
def hopP (s : ByteArray) (x : HopX s) : Bool := s[x.1 + 1]'x.2 == 60
def hopE (s : ByteArray) : HopX s → Value := fun x => .int .i64 (x.1 : Nat)
theorem nl1_any (s : ByteArray) (x : HopX s) (bx : Nat) (w : World) (hs : s.size ≤ 4000000000) (hbx : w.cell? ⟨bx, 0, none⟩ = some (.string s)) (hbl : bx < w.heap.size) :
    Calls Tryz.prog 44 (#[hopE s x] ++ #[.pointer (some ⟨bx, 0, none⟩)]) w fun e w' => e = .returned (.bool (hopP s x)) ∧ ∃ q, w' = w.drewN q := by
  obtain ⟨x, hx⟩ := x
  show Calls Tryz.prog 44 #[.int .i64 x, .pointer (some ⟨bx, 0, none⟩)] w _
  unfold hopP
  dsimp only
  have hix := fun W => index_str s ((x : Int) + 1) (x + 1) (by omega) hx W
  generalize s[x + 1] = b at *
  have hb : ((b.toNat : Int) == 60) = (b == 60) := by
    rw [Bool.eq_iff_iff]
    simp only [beq_iff_eq]
    constructor
    · intro h; exact UInt8.toNat_inj.1 (by show b.toNat = 60; omega)
    · intro h; rw [h]; rfl
  go_enter Tryz.func44, Tryz.ntmps44
  go_wp2
  go_ret
  exact ⟨rfl, 0, rfl⟩
theorem sort_other {α : Type} [Inhabited α] (enc : α → Value) (w : World) (blk off n : Nat) (dk : Array α) (os : Array Obj) {k : Nat} (hk : k ≠ blk) (hl : k < w.heap.size) : (sortWorld enc w blk off n dk os).heap[k]? = w.heap[k]? := by
  have e : (sortWorld enc w blk off n dk os).heap = (w.heap.modify blk (Go.Sort.onCells (Go.Sort.putCells enc off dk))) ++ os := rfl
  rw [e, Array.getElem?_append_left (by simpa using hl), Array.getElem?_modify, if_neg (fun h => hk h.symm)]
theorem sort_self {α : Type} [Inhabited α] (enc : α → Value) (w : World) (blk n : Nat) (dk : Array α) {cs : Array Value} {t : TypeId} {fz : Nat × Nat} (h : w.heap[blk]? = some (.cells cs t fz)) : (Go.Sort.putRow enc (Go.Sort.ahead w n) blk 0 dk).heap[blk]? = some (.cells (Go.Sort.putCells enc 0 dk cs) t fz) := by
  have e : (Go.Sort.putRow enc (Go.Sort.ahead w n) blk 0 dk).heap = w.heap.modify blk (Go.Sort.onCells (Go.Sort.putCells enc 0 dk)) := rfl
  rw [e, Array.getElem?_modify, if_pos rfl, h]
  rfl
theorem put_take {α : Type} [Inhabited α] (enc : α → Value) (Y Z : List α) (cs : Array Value) (h : Y.length + Z.length ≤ cs.size) : (Go.Sort.putCells enc 0 (Y ++ Z).toArray cs).toList.take Y.length = Y.map enc := by
  apply List.ext_getElem?
  intro k
  rw [List.getElem?_take]
  split
  · next hk =>
    have hkc : k < cs.size := by omega
    rw [List.getElem?_map, List.getElem?_eq_getElem hk]
    simp only [Go.Sort.putCells, Array.getElem?_toList, Array.getElem?_mapIdx, Array.getElem?_eq_getElem hkc, Option.map_some]
    rw [if_pos ⟨by omega, by simp; omega⟩]
    simp only [Nat.sub_zero]
    congr 2
    rw [getElem!_pos (Y ++ Z).toArray k (by simp; omega)]
    simp [List.getElem_append_left hk]
  · next hk =>
    rw [List.getElem?_eq_none (by simp; omega)]
theorem delete_nothing (a : Option Addr) (c : Nat) (fv : Value) (w : World) : Calls Tryz.prog 43 #[.slice a 0 c, fv] w fun e w' => e = .returned (.slice a 0 c) ∧ w' = w := by
  have ci := fun W => Tryz.slices_IndexFunc_empty (α := Nat) a c fv W
  go_enter Tryz.func43, Tryz.ntmps43
  go_wp2_with fail
  refine (ci _).mono ?_
  rintro e w' ⟨rfl, rfl⟩
  go_wp2
  go_ret
  exact ⟨rfl, rfl⟩
theorem pmap_val (s : ByteArray) : ∀ L : List Nat, (∀ p ∈ L, p + 1 < s.size) → ∃ D : List (HopX s), D.map Subtype.val = L
  | [], _ => ⟨[], rfl⟩
  | p :: L, h => by
    obtain ⟨D, hD⟩ := pmap_val s L fun q hq => h q (List.mem_cons_of_mem _ hq)
    exact ⟨⟨p, h p (List.mem_cons_self ..)⟩ :: D, by simp [hD]⟩
theorem natI_ofX (s : ByteArray) (D : List (HopX s)) : D.map (hopE s) = (natI (D.map Subtype.val)).map (Value.int .i64) := by
  unfold natI hopE
  simp
/-- DeleteFunc by the closure that asks whether a sharp bracket stands behind. -/
theorem delete_hop (s : ByteArray) (bx g cap B : Nat) (L : List Nat) (w : World) (hs : s.size ≤ 4000000000) (hL : ∀ p ∈ L, p + 1 < s.size) (hbx : w.cell? ⟨bx, 0, none⟩ = some (.string s)) (hbl : bx < w.heap.size) (hne : bx ≠ g)
    (ho : w.ownsInts B 3 .i64 (.slice (some ⟨g, 0, none⟩) L.length cap) (natI L)) :
    Calls Tryz.prog 43 #[.slice (some ⟨g, 0, none⟩) L.length cap, .func (.func 44) #[] #[.pointer (some ⟨bx, 0, none⟩)]] w fun e w' =>
      ∃ Y : List Nat, e = .returned (.slice (some ⟨g, 0, none⟩) Y.length cap) ∧ Y.Sublist L ∧ (∀ y ∈ Y, s.data.toList.getD (y + 1) 0 ≠ 60) ∧ w'.ownsInts B 3 .i64 (.slice (some ⟨g, 0, none⟩) Y.length cap) (natI Y) ∧ w.grownBy w' (some g) := by
  cases hLn : L with
  | nil =>
    subst hLn
    refine (delete_nothing (some ⟨g, 0, none⟩) cap _ w).mono ?_
    rintro e w' ⟨rfl, rfl⟩
    exact ⟨[], rfl, List.Sublist.refl _, by simp, ho, World.grownBy.refl _ _⟩
  | cons p0 L0 =>
    rw [← hLn]
    have hp0 := hL p0 (by rw [hLn]; exact List.mem_cons_self ..)
    clear hLn
    obtain ⟨D, hD⟩ := pmap_val s L hL
    have hinh : Inhabited (HopX s) := ⟨⟨0, by omega⟩⟩
    obtain ⟨⟨hx1, hx2⟩, hwf⟩ := ho
    have hnl : (natI L).length = L.length := by simp [natI]
    rw [hnl] at hx1 hx2
    rcases hx2 with ⟨e1, _⟩ | ⟨g', cap', cur, e1, hBg, hg, hnc, hcm, hcs, ht⟩
    · cases e1
    · cases e1
      have hDl : D.length = L.length := by rw [← hD]; simp
      have hcells : cur.toList.take L.length = D.map (hopE s) := by rw [natI_ofX, hD]; simpa using ht
      have hH : Go.Sort.Holds (hopE s) w g 0 D.toArray := by
        intro j hj
        have hj' : j < D.length := by simpa using hj
        refine ⟨?_, by simp [World.frozen?, hg]⟩
        rw [Nat.zero_add, cell_of_row w g j cur _ (0, 0) hg]
        have h1 := congrArg (·[j]?) hcells
        simp only [List.getElem?_take, List.getElem?_map] at h1
        rw [if_pos (by omega), List.getElem?_eq_getElem hj', Option.map_some] at h1
        rw [getElem!_pos D.toArray j hj]
        simpa using h1
      have hcl : (cur.toList.take L.length).length = L.length := by rw [hcells]; simp [hDl]
      have hcsz : L.length ≤ cur.size := by
        rw [List.length_take] at hcl
        simp at hcl
        omega
      unfold maxLen at hcm
      have cd := Tryz.slices_DeleteFunc (hopE s) (fun _ => rfl) (hopP s) 44 #[.pointer (some ⟨bx, 0, none⟩)] (fun _ _ => by kernel_rfl) (⟨0, by omega⟩ : HopX s) (fun _ => by kernel_rfl) g 0 cap D.toArray w
        (fun W x hb => nl1_any s x bx W hs ((hb.cell (p := ⟨bx, 0, none⟩) hbl).trans hbx) (Nat.lt_of_lt_of_le hbl hb.size))
        (fun n os dk x hsz => nl1_any s x bx _ hs (by
          have h1 := sort_other (hopE s) w g 0 n dk os hne hbl
          rw [← hbx]
          simp [World.cell?, h1]) (by
          have h1 := sort_other (hopE s) w g 0 n dk os hne hbl
          rw [Array.getElem?_eq_getElem hbl] at h1
          exact (Array.getElem?_eq_some_iff.1 h1).1)) hH (by simp; omega) (by simp; omega)
      rw [show D.toArray.size = L.length from by simp [hDl]] at cd
      refine cd.mono ?_
      rintro e w' ⟨rfl, q, rfl⟩
      have hsub : (D.filter fun x => !hopP s x).length ≤ D.length := List.length_filter_le _ _
      generalize hY : (D.filter fun x => !hopP s x) = Y at *
      have hmem : ∀ y ∈ Y, hopP s y = false := fun y hy => by rw [← hY] at hy; simpa using (List.mem_filter.1 hy).2
      have hsl : Y.Sublist D := by rw [← hY]; exact List.filter_sublist
      refine ⟨Y.map Subtype.val, by rw [List.length_map], by rw [← hD]; exact hsl.map _, ?_, ?_, ?_⟩
      · intro y hy
        obtain ⟨x, hx, rfl⟩ := List.mem_map.1 hy
        have h1 := hmem x hx
        unfold hopP at h1
        have h2 : s.data.toList.getD (x.1 + 1) 0 = s[x.1 + 1]'x.2 := by
          rw [List.getD_eq_getElem?_getD, List.getElem?_eq_getElem (by simpa using x.2)]
          rfl
        rw [h2]
        simpa using h1
      · refine ⟨⟨by simp [natI], Or.inr ⟨g, cap, _, by simp [natI], hBg, sort_self (hopE s) w g q _ hg, by simp [natI]; omega, hcm, by simp [Go.Sort.putCells, hcs], ?_⟩⟩, ?_⟩
        · rw [Nat.mul_one, show (natI (Y.map Subtype.val)).length = Y.length from by simp [natI], ← natI_ofX]
          exact put_take (hopE s) Y _ cur (by simp; omega)
        · intro z hz
          unfold natI at hz
          obtain ⟨y, hy, rfl⟩ := List.mem_map.1 hz
          obtain ⟨x, _, rfl⟩ := List.mem_map.1 hy
          have := x.2
          simp [Lit.wf, IntKind.min, IntKind.max, IntKind.signed, IntKind.bits]
          omega
      · refine ⟨rfl, rfl, rfl, by simp [Go.Sort.putRow, Go.Sort.mapBlock, Go.Sort.ahead], fun k hk hne => ?_⟩
        have h1 := sort_other (hopE s) w g 0 q ((Y ++ List.replicate (L.length - Y.length) (⟨0, by omega⟩ : HopX s)).toArray) #[] (k := k) (fun e => hne (by rw [e])) hk
        simpa [sortWorld] using h1
end Go.Proofs.YtfbaknkmpilllaaGreatDoor

namespace Go.Proofs.YtfbaknkmpilllaaGreatDoor
open Go.RowKit
set_option linter.unusedSimpArgs false
set_option linter.unusedVariables false
def BytesIn (w : World) (B : Nat) (V : List UInt8) : Prop :=
  ∃ C fr, w.heap[B]? = some (.cells C 5 fr) ∧ (∀ j (h : j < V.length), C[j]? = some (.int .u8 V[j].toNat)) ∧ ∀ j, j < V.length → ¬ (fr.1 ≤ j ∧ j < fr.2)
theorem BytesIn.cell {w : World} {B : Nat} {V : List UInt8} (h : BytesIn w B V) (j : Nat) (hj : j < V.length) : w.cell? ⟨B, j, none⟩ = some (.int .u8 V[j].toNat) := by
  obtain ⟨C, fr, hb, hc, _⟩ := h
  rw [cell_of_row w B j C 5 fr hb]
  exact hc j hj
theorem BytesIn.frozen {w : World} {B : Nat} {V : List UInt8} (h : BytesIn w B V) (j : Nat) (hj : j < V.length) : w.frozen? ⟨B, j, none⟩ = false := by
  obtain ⟨C, fr, hb, _, hf⟩ := h
  have := hf j hj
  unfold World.frozen?
  rw [hb]
  simp only [Bool.and_eq_false_iff, decide_eq_false_iff_not]
  omega
theorem BytesIn.below {w w' : World} {B : Nat} {V : List UInt8} (h : BytesIn w B V) (hb : Below w.heap.size w w') : BytesIn w' B V := by
  obtain ⟨C, fr, h1, h2⟩ := h
  exact ⟨C, fr, (hb.block B (Array.getElem?_eq_some_iff.1 h1).1).trans h1, h2⟩
theorem BytesIn.set {w : World} {B : Nat} {V : List UInt8} (h : BytesIn w B V) (k : Nat) (hk : k < V.length) (x : UInt8) : BytesIn (w.setCell ⟨B, k, none⟩ (.int .u8 x.toNat)) B (V.set k x) := by
  obtain ⟨C, fr, hb, hc, hf⟩ := h
  refine ⟨C.setIfInBounds k (.int .u8 x.toNat), fr, ?_, ?_, by simpa using hf⟩
  · simp [World.setCell, Array.getElem?_modify, hb]
  · intro j hj
    rw [List.length_set] at hj
    have hck := hc k hk
    have hks : k < C.size := (Array.getElem?_eq_some_iff.1 hck).1
    by_cases e : k = j
    · subst e
      simp [hks]
    · rw [Array.getElem?_setIfInBounds_ne e, hc j hj]
      simp [e]
theorem BytesIn.new (w : World) (s : ByteArray) (cap : Nat) : BytesIn (w.drew.alloc (.cells (bytesRow s cap) 5 ((bytesRow s cap).size, (bytesRow s cap).size + 1))) w.heap.size s.data.toList := by
  refine ⟨bytesRow s cap, _, heap_alloc_new w.drew _, fun j hj => ?_, fun j hj => ?_⟩
  · have hj2 : j < s.data.size := by simpa using hj
    unfold bytesRow
    rw [Array.getElem?_append_left (by simpa using hj2)]
    simp only [Array.getElem?_map, Array.getElem?_eq_getElem hj2, Option.map_some]
    rfl
  · have hj2 : j < s.data.size := by simpa using hj
    have : s.data.size ≤ (bytesRow s cap).size := by simp [bytesRow]
    show ¬ ((bytesRow s cap).size ≤ j ∧ _)
    omega
end Go.Proofs.YtfbaknkmpilllaaGreatDoor

namespace Go.Proofs.YtfbaknkmpilllaaGreatDoor
open Go.RowKit Go.Maps
set_option linter.unusedSimpArgs false
set_option linter.unusedVariables false
set_option maxRecDepth 100000
/-- A list of numbers of the call's own behind another one. -/
theorem append_nums {w : World} {ops : Array Oper} {rest : List Oper} {o : Oper} {a : Act} {Q : Exit → Act → World → Prop} (hgd : o.guard = none) (s x : Operand)
    (ho : o.op = .call { callee := .builtin .append, args := #[s, x], argTypes := #[35, 35] }) (base B2 : Nat) (v : Value) (X : List Int) (hs : a.eval s = v)
    (hown : w.ownsInts base 3 .i64 v X) (u : Value) (Y : List Int) (hx : a.eval x = u) (hu : w.ownsInts B2 3 .i64 u Y)
    (h63 : X.length + Y.length ≤ 1000000000) (hbase : base ≤ w.heap.size)
    (h : ∀ v' w', w'.ownsInts base 3 .i64 v' (X ++ Y) → w.grownBy w' v.ownBlock → (v'.ownBlock = v.ownBlock ∨ v'.ownBlock = some w.heap.size) → wpList Tryz.prog ops Q rest (a.put o.dst v') w') : wpList Tryz.prog ops Q (o :: rest) a w := by
  obtain ⟨i0, hi, hz0, hz1, hz2⟩ := info_parts infoInt
  have hwf : ∀ z ∈ X ++ Y, (Lit.int .i64 z).wf = true := fun z hz => by
    rcases List.mem_append.1 hz with hz | hz
    · exact hown.2 z hz
    · exact hu.2 z hz
  rcases hu.1.2 with ⟨e1, h0⟩ | ⟨g, cap, cur, e1, hb, hg, hnc, hcm, hcs, ht⟩
  · have hY : Y = [] := List.eq_nil_of_length_eq_zero h0
    subst hY
    subst e1
    refine wpList_plain hgd fun K hK => ?_
    have hrun := run_append_none_i (w := w) base 35 o.type 3 i0 1 0 Tryz.underlying35 hi v X.length (X.map (Value.int .i64)) hown.1
    unfold Oper.wp
    simp [execOp, ho, resolve, invoke, builtin, hs, hx, hrun, Result.andThen]
    exact hK _ _ (h v w (by simpa using hown) ⟨rfl, rfl, rfl, Nat.le_refl _, fun _ _ _ => rfl⟩ (Or.inl rfl))
  · subst e1
    refine wpList_append_own_at w hgd s x 35 ho base 3 i0 (.int .i64 0) 1 8 Tryz.underlying35 hi hz0 hz1 hz2 rfl (by decide) v X.length (X.map (Value.int .i64)) hs hown.1 ⟨g, 0, none⟩ Y.length cap (Y.map (Value.int .i64)) hx (by simp) (hu.1.cells (g := g) rfl) (by intro y hy; obtain ⟨z, _, rfl⟩ := List.mem_map.1 hy; rfl) (by unfold maxLen; omega) (by omega) hbase ?_
    intro v' w' h2 h3 _ h5
    exact h v' w' ⟨by rw [List.length_append, List.map_append]; exact h2, hwf⟩ h3 h5
set_option maxHeartbeats 2000000 in
theorem notLast_any (s : ByteArray) (v : Value) (L : List Nat) (B : Nat) (w : World) (hs : s.size ≤ 4000000000) (hL : ∀ p ∈ L.dropLast, p + 1 < s.size) (hlen : L.length ≤ 4000000000) (ho : w.ownsInts B 3 .i64 v (natI L)) :
    Calls Tryz.prog 29 #[.string s, v] w fun e w' => ∃ (v' : Value) (Y : List Nat), e = .returned v' ∧ Y.Sublist L.dropLast ∧ (∀ y ∈ Y, s.data.toList.getD (y + 1) 0 ≠ 60) ∧ w'.ownsInts B 3 .i64 v' (natI Y) ∧ w.grownBy w' v.ownBlock := by
  rcases List.eq_nil_or_concat L with rfl | ⟨L', j, rfl⟩
  · obtain ⟨A, cap, rfl, _⟩ := own_form ho.1
    go_enter Tryz.func29, Tryz.ntmps29
    go_wp2
    go_ret
    exact ⟨_, [], rfl, List.Sublist.refl _, by simp, World.ownsInts_nil _ _ _ _, World.grownBy_alloc _ _ _⟩
  · rw [List.concat_eq_append] at *
    rw [List.dropLast_concat] at *
    rw [List.length_append, List.length_singleton] at hlen
    obtain ⟨g, c, rfl, hBg, hgl, _, hlc, hcm⟩ := last_cell ho
    have hcut := cut_last ho
    have hns := fun W => nslice_high (some ⟨g, 0, none⟩) (L'.length + 1) c L'.length (by omega) W
    have cd := delete_hop s w.heap.size g c B L' (w.alloc (.cells #[.string s] 9)) hs hL (by rw [cell_of_row _ _ 0 #[.string s] _ (0, 0) (heap_alloc_new w _)]; rfl) (by simp) (by omega) (hcut.alloc _)
    unfold maxLen at hcm
    have HG := Lib.hid (show ∀ w', (w.alloc (.cells #[.string s] 9)).grownBy w' (some g) → w.grownBy w' (some g) from fun w' h => (World.grownBy_alloc w _ _).trans h)
    clear hcut ho hL
    go_enter Tryz.func29, Tryz.ntmps29
    go_wp2_with fail
    refine cd.mono ?_
    rintro e w1 ⟨Y, rfl, hY1, hY2, hY3, hY4⟩
    go_wp2
    go_ret
    exact ⟨_, Y, rfl, hY1, hY2, hY3, HG.out _ hY4⟩
end Go.Proofs.YtfbaknkmpilllaaGreatDoor

namespace Go.Proofs.YtfbaknkmpilllaaGreatDoor
open Go.RowKit Go.Maps
set_option linter.unusedSimpArgs false
set_option linter.unusedVariables false
set_option maxRecDepth 100000
/-- What is known behind i bytes: al: what is without hope; op: what is left open; lo: where this word begins. -/
structure HopSt (s : List UInt8) (i : Nat) (esc : Bool) (al op : List Nat) (lo : Nat) : Prop where
  opn : OpenI s i esc op
  hop : ∀ p ∈ al, Hop s p
  asc : al.Pairwise (· < ·)
  low : ∀ p ∈ al, p < lo
  oasc : op.Pairwise (· < ·)
  olow : ∀ p ∈ op, lo ≤ p ∧ p < i
  le : lo ≤ i
theorem hopSt_start (s : List UInt8) : HopSt s 0 false [] [] 0 := ⟨openI_nil _ _ _, by simp, List.Pairwise.nil, by simp, List.Pairwise.nil, by simp, Nat.le_refl _⟩
section
variable {s : List UInt8} {i : Nat} {esc : Bool} {al op : List Nat} {lo : Nat}
theorem HopSt.other (h : HopSt s i esc al op lo) (hi : i < s.length) (esc' : Bool) (hs : ∀ o k, bareGo (s[i] :: s.drop (i + 1)) o esc k = bareGo (s.drop (i + 1)) o esc' (k + 1)) : HopSt s (i + 1) esc' al op lo :=
  ⟨openI_other h.opn hi esc' hs, h.hop, h.asc, h.low, h.oasc, fun p hp => by have := h.olow p hp; omega, by have := h.le; omega⟩
theorem HopSt.nilOp (h : HopSt s i esc al [] lo) (esc' : Bool) : HopSt s (i + 1) esc' al [] lo :=
  ⟨openI_nil _ _ _, h.hop, h.asc, h.low, List.Pairwise.nil, by simp, by have := h.le; omega⟩
theorem HopSt.open' (h : HopSt s i false al op lo) (hi : i < s.length) (hb : s[i].toNat = 40) : HopSt s (i + 1) false al (op ++ [i]) lo := by
  refine ⟨openI_open h.opn hi hb, h.hop, h.asc, h.low, ?_, ?_, by have := h.le; omega⟩
  · rw [List.pairwise_append]
    exact ⟨h.oasc, List.pairwise_singleton _ _, fun a ha b hb => by rw [List.mem_singleton] at hb; subst hb; exact (h.olow a ha).2⟩
  · intro p hp
    rcases List.mem_append.1 hp with hp | hp
    · have := h.olow p hp; omega
    · rw [List.mem_singleton] at hp; subst hp; have := h.le; omega
theorem HopSt.shut (h : HopSt s i false al op lo) (hi : i < s.length) (hb : s[i].toNat = 41) : HopSt s (i + 1) false al op.dropLast lo :=
  ⟨openI_shut h.opn hi hb, h.hop, h.asc, h.low, h.oasc.sublist (List.dropLast_sublist _), fun p hp => by have := h.olow p ((List.dropLast_sublist _).subset hp); omega, by have := h.le; omega⟩
theorem HopSt.stop (h : HopSt s i esc al op lo) (hi : ∀ b ∈ (s.drop i).head?, tgHid b.toNat = true) {Y : List Nat} (hY : Y.Sublist op.dropLast) (hn : ∀ y ∈ Y, s.getD (y + 1) 0 ≠ 60) : HopSt s (i + 1) false (al ++ Y) [] (i + 1) := by
  have hend := openI_end h.opn hi
  have hmem : ∀ y ∈ Y, y ∈ op := fun y hy => (List.dropLast_sublist _).subset (hY.subset hy)
  refine ⟨openI_nil _ _ _, ?_, ?_, ?_, List.Pairwise.nil, by simp, Nat.le_refl _⟩
  · intro p hp
    rcases List.mem_append.1 hp with hp | hp
    · exact h.hop p hp
    · exact (hend p (hY.subset hp)).2 (hn p hp)
  · rw [List.pairwise_append]
    refine ⟨h.asc, h.oasc.sublist (hY.trans (List.dropLast_sublist _)), fun a ha b hb => ?_⟩
    have h1 := h.low a ha
    have h2 := h.olow b (hmem b hb)
    omega
  · intro p hp
    rcases List.mem_append.1 hp with hp | hp
    · have := h.low p hp; have := h.le; omega
    · have := h.olow p (hmem p hp); omega
theorem HopSt.fits (h : HopSt s i esc al op lo) (hi : ∀ b ∈ (s.drop i).head?, tgHid b.toNat = true) (hl : i ≤ s.length) : ∀ p ∈ op.dropLast, p + 1 < s.length := fun p hp => by have := (openI_end h.opn hi p hp).1; omega
end
theorem asc_len : ∀ (n : Nat) (l : List Nat), l.Pairwise (· < ·) → (∀ p ∈ l, p < n) → l.length ≤ n := by
  intro n
  induction n with
  | zero => intro l _ h; cases l with | nil => simp | cons a l => exact absurd (h a (List.mem_cons_self ..)) (by omega)
  | succ n ih =>
    intro l hl h
    rcases List.eq_nil_or_concat l with rfl | ⟨l', j, rfl⟩
    · simp
    · rw [List.concat_eq_append] at *
      rw [List.pairwise_append] at hl
      have := ih l' hl.1 (fun p hp => by
        have h1 := hl.2.2 p hp j (List.mem_singleton.2 rfl)
        have h2 := h j (by simp)
        omega)
      rw [List.length_append, List.length_singleton]
      omega
theorem HopSt.len {s : List UInt8} {i : Nat} {esc : Bool} {al op : List Nat} {lo : Nat} (h : HopSt s i esc al op lo) : al.length ≤ i ∧ op.length ≤ i :=
  ⟨Nat.le_trans (asc_len lo al h.asc h.low) h.le, asc_len i op h.oasc fun p hp => (h.olow p hp).2⟩
theorem BytesIn.kept {w w' : World} {g : Nat} {V : List UInt8} {row : Option Nat} (h : BytesIn w g V) (hg : w.grownBy w' row) (hne : row ≠ some g) : BytesIn w' g V := by
  obtain ⟨C, fr, h1, h2⟩ := h
  exact ⟨C, fr, (hg.block g (Array.getElem?_eq_some_iff.1 h1).1 (fun e => hne e.symm)).trans h1, h2⟩
theorem BytesIn.ne {w : World} {g B : Nat} {V : List UInt8} {v : Value} {zs : List Int} (h : BytesIn w g V) (k : w.ownsInts B 3 .i64 v zs) : v.ownBlock ≠ some g := by
  obtain ⟨C, fr, h1, _⟩ := h
  exact ints_ne k h1 (by decide)
theorem natI_app (a b : List Nat) : natI (a ++ b) = natI a ++ natI b := by simp [natI]
theorem int_lit {w : World} {g B : Nat} {z : Nat} (hg : w.heap[g]? = some (.cells #[.int .i64 (z : Int)] 3 (0, 0))) (hB : B ≤ g) (hz : z ≤ 1000000000) : w.ownsInts B 3 .i64 (.slice (some ⟨g, 0, none⟩) 1 1) (natI [z]) :=
  ⟨⟨rfl, Or.inr ⟨g, 1, _, rfl, hB, hg, Nat.le_refl _, by decide, rfl, rfl⟩⟩, by
    intro x hx
    simp [natI] at hx
    subst hx
    simp [Lit.wf, IntKind.min, IntKind.max, IntKind.signed, IntKind.bits]
    omega⟩
/-- The bytes of a text, in a block of the call's own. -/
theorem bytes_of (s : ByteArray) (w : World) (hs : s.size ≤ 4000000000) : ∃ cap W2, (convert 9 44 (.string s)).run Tryz.prog w = .ok (.slice (some ⟨w.heap.size, 0, none⟩) s.size cap) W2 ∧ BytesIn W2 w.heap.size s.data.toList ∧ Below w.heap.size w W2 ∧ s.size ≤ cap ∧ cap ≤ maxLen ∧ w.heap.size < W2.heap.size := by
  have h := run_bytes_of_string (P := Tryz.prog) w 9 44 5 s Tryz.underlying9 Tryz.underlying44 Tryz.underlying5
  exact ⟨_, _, h, BytesIn.new w s _, (below_drewN' (Below.refl _ w) 1).alloc (Nat.le_refl _) _, grownCap_ge _ _ _ _, grownCap_le_maxLen _ _ _ _ (by unfold maxLen; omega), by simp⟩
set_option maxHeartbeats 8000000 in
theorem hopeless_any (s : ByteArray) (w : World) (hs : s.size ≤ 1000000) :
    Calls Tryz.prog 21 #[.string s] w fun e w' => (∃ al : List Nat, (∃ v, e = .returned v ∧ w'.ownsInts w.heap.size 3 .i64 v (natI al)) ∧ (∀ p ∈ al, Hop s.data.toList p) ∧ al.Pairwise (· < ·) ∧ al.length ≤ 1000001) ∧ Below w.heap.size w w' := by
  have hsl : s.data.toList.length = s.size := by simp
  obtain ⟨cap, W2, hcv, hBI, hb2, hcap, hcm, hlt2⟩ := bytes_of (s ++ ⟨#[32]⟩) w (by rw [ByteArray.size_append]; show s.size + 1 ≤ _; omega)
  have htl : (s ++ (⟨#[32]⟩ : ByteArray)).data.toList = s.data.toList ++ [32] := by simp
  have hts : (s ++ (⟨#[32]⟩ : ByteArray)).size = s.size + 1 := by rw [ByteArray.size_append]; rfl
  rw [htl] at hBI
  rw [hts] at hcv hcap
  unfold maxLen at hcm
  have HBI := Lib.hid hBI
  have HB2 := Lib.hid hb2
  clear hBI hb2 htl hts
  have hns : ¬ 9223372036854775807 < s.size + 1 := by omega
  go_enter Tryz.func21, Tryz.ntmps21
  go_wp2_with fail
  go_loopw [3, 4, 5, 6, 7, 12] (fun av ov ev iv bv kv wr => ∃ (k : Nat) (esc : Bool) (al op : List Nat) (lo : Nat), kv = .int .i64 k ∧ ev = .bool esc ∧ k ≤ s.size + 1 ∧ HopSt s.data.toList k esc al op lo ∧ wr.ownsInts w.heap.size 3 .i64 av (natI al) ∧ wr.ownsInts w.heap.size 3 .i64 ov (natI op) ∧ Apart av ov ∧
    (k = s.size + 1 → op = []) ∧ BytesIn wr w.heap.size (s.data.toList ++ [32]) ∧ Below w.heap.size w wr) (fun _ _ _ _ _ kv _ => s.size + 1 - (intOf kv).toNat)
  case atStart =>
    exact ⟨0, false, [], [], 0, rfl, rfl, Nat.zero_le _, hopSt_start _, World.ownsInts_nil _ _ _ _, World.ownsInts_nil _ _ _ _, fun g h => by simp [Value.ownBlock] at h, fun _ => rfl, HBI.out, HB2.out⟩
  case round =>
    obtain ⟨k, esc, al, op, lo, rfl, rfl, hk, hst, hal, hop, hap, hfin, hbi, hbw⟩ := hrel
    by_cases hp : k < s.size + 1
    · have hkl : k < (s.data.toList ++ [32]).length := by simp; omega
      have c0 := hbi.cell k hkl
      have hbs : k < s.data.toList.length → (s.data.toList ++ [32])[k] = s.data.toList.getD k 0 := fun h => by
        rw [List.getElem_append_left h, List.getD_eq_getElem?_getD, List.getElem?_eq_getElem h]; rfl
      have hbe : k = s.data.toList.length → (s.data.toList ++ [32])[k] = 32 := fun h => by
        subst h; simp
      have hgd : ∀ h : k < s.data.toList.length, s.data.toList.getD k 0 = s.data.toList[k] := fun h => by
        rw [List.getD_eq_getElem?_getD, List.getElem?_eq_getElem h]; rfl
      have hlen := hst.len
      obtain ⟨Aa, ca, rfl, _⟩ := own_form hal.1
      obtain ⟨Ao, co, rfl, hoc⟩ := own_form hop.1
      have hol : (natI op).length = op.length := by simp [natI]
      have hall : (natI al).length = al.length := by simp [natI]
      rw [hol] at hop hap hoc ⊢
      rw [hall] at hal hap ⊢
      have hnb1 := hbi.ne hal
      have hnb2 := hbi.ne hop
      have hbsz := hbw.size
      have HST := Lib.hid hst
      have HAL := Lib.hid hal
      have HOP := Lib.hid hop
      have HAP := Lib.hid hap
      have HBI2 := Lib.hid hbi
      have HBW := Lib.hid hbw
      have HBS := Lib.hid hbs
      have HBE := Lib.hid hbe
      have HGD := Lib.hid hgd
      clear hst hal hop hap hbi hbw hbs hbe hgd hfin hol hall
      generalize (s.data.toList ++ [32])[k] = b at *
      by_cases hh : tgHid b.toNat = true
      · have hhead : ∀ x ∈ (s.data.toList.drop k).head?, tgHid x.toNat = true := by
          intro x hx
          rw [List.head?_drop] at hx
          have hlt : k < s.data.toList.length := by
            rcases Nat.lt_or_ge k s.data.toList.length with h | h
            · exact h
            · rw [List.getElem?_eq_none h] at hx; cases hx
          rw [List.getElem?_eq_getElem hlt, Option.mem_some_iff] at hx
          rw [← hx, ← HGD.out hlt, ← HBS.out hlt]
          exact hh
        have hfit := HST.out.fits hhead (by omega)
        have cn := notLast_any s (.slice Ao op.length co) op w.heap.size wr (by omega) (by rw [← hsl]; exact hfit) (by omega) HOP.out
        have HHD := Lib.hid hhead
        clear hfit hhead
        have hand : (decide ((b.toNat : Int) ≤ 32) = true) ∨ (decide ((b.toNat : Int) ≤ 32) = false ∧ ((b.toNat : Int) == 127) = true) := by
          unfold tgHid at hh
          cases h1 : decide ((b.toNat : Int) ≤ 32) with
          | true => exact Or.inl rfl
          | false => rw [h1] at hh; exact Or.inr ⟨rfl, by simpa using hh⟩
        clear hh
        rcases hand with h1 | ⟨h1, h2⟩
        all_goals
          go_wp2_with fail
          refine cn.mono ?_
          rintro e w3 ⟨v3, Y, rfl, hY1, hY2, hY3, hY4⟩
          have hAL3 : w3.ownsInts w.heap.size 3 .i64 (.slice Aa al.length ca) (natI al) := HAL.out.kept hY4 HAP.out.ne
          have hBI3 := HBI2.out.kept hY4 hnb2
          have hBW3 : Below w.heap.size w w3 := HBW.out.grown hY4 hbsz (fun r e => (HOP.out.1.lt r e).1)
          have hYl : Y.length ≤ op.length := by have := hY1.length_le; rw [List.length_dropLast] at this; omega
          have hal3 := HAL.out.1.lt
          have HAL3 := Lib.hid hAL3
          have HY3 := Lib.hid hY3
          have HBI3 := Lib.hid hBI3
          have HBW3 := Lib.hid hBW3
          have HN := Lib.hid (HST.out.stop HHD.out hY1 hY2)
          have hs3 := hBW3.size
          clear cn hY1 hY2 hY3 hY4 hAL3 hBI3 hBW3 hal3
          go_wp2_with (at_builtin; refine append_nums rfl _ _ rfl w.heap.size w.heap.size _ (natI al) rfl HAL3.out _ (natI Y) rfl HY3.out (by simp [natI]; omega) hs3 ?_)
          intro v4 w4 ho4 hg4 _
          have hBI4 := HBI3.out.kept hg4 hnb1
          have hBW4 : Below w.heap.size w w4 := HBW3.out.grown hg4 hs3 (fun r e => (HAL3.out.1.lt r e).1)
          have HO4 := Lib.hid ho4
          have HBI4 := Lib.hid hBI4
          have HBW4 := Lib.hid hBW4
          clear ho4 hg4 hBI4 hBW4
          go_wp2
          go_roundw
          case rel => exact ⟨k + 1, false, al ++ Y, [], k + 1, by go_num, rfl, by omega, HN.out, by rw [natI_app]; exact HO4.out, World.ownsInts_nil _ _ _ _, fun g _ h => by simp [Value.ownBlock] at h, fun _ => rfl, HBI4.out, HBW4.out⟩
          case measure => simp [intOf]; omega
      · have hh0 : tgHid b.toNat = false := by simpa using hh
        have hkL : k < s.data.toList.length := by
          rcases Nat.lt_or_ge k s.data.toList.length with h | h
          · exact h
          · have h2 := HBE.out (by omega)
            rw [h2] at hh0
            exact absurd hh0 (by decide)
        have hbk : s.data.toList[k] = b := by rw [← HGD.out hkL, ← HBS.out hkL]
        have h1 : decide ((b.toNat : Int) ≤ 32) = false := by
          unfold tgHid at hh0
          simp only [Bool.or_eq_false_iff] at hh0
          exact hh0.1
        have h2 : ((b.toNat : Int) == 127) = false := by
          unfold tgHid at hh0
          simp only [Bool.or_eq_false_iff] at hh0
          exact hh0.2
        have HH0 := Lib.hid hh0
        have HBK := Lib.hid hbk
        have HKL := Lib.hid hkL
        clear hh hh0 hbk
        cases esc with
        | true =>
          have HN := Lib.hid (HST.out.other HKL.out false (fun o j => by rw [HBK.out]; exact bareGo_esc HH0.out _ o j))
          go_wp2
          go_roundw
          case rel => exact ⟨k + 1, false, al, op, lo, by go_num, rfl, by omega, HN.out, HAL.out, HOP.out, HAP.out, fun e => by have := HKL.out; omega, HBI2.out, HBW.out⟩
          case measure => simp [intOf]; omega
        | false =>
          by_cases h92 : b.toNat = 92
          · have g1 : ((b.toNat : Int) == 92) = true := by simp; omega
            have HN := Lib.hid (HST.out.other HKL.out true (fun o j => by rw [HBK.out]; exact bareGo_back h92 _ o j))
            clear h92
            go_wp2
            go_roundw
            case rel => exact ⟨k + 1, true, al, op, lo, by go_num, rfl, by omega, HN.out, HAL.out, HOP.out, HAP.out, fun e => by have := HKL.out; omega, HBI2.out, HBW.out⟩
            case measure => simp [intOf]; omega
          · have g1 : ((b.toNat : Int) == 92) = false := by simp; omega
            by_cases h40 : b.toNat = 40
            · have g2 : ((b.toNat : Int) == 40) = true := by simp; omega
              have HN := Lib.hid (HST.out.open' HKL.out (by rw [HBK.out]; exact h40))
              have HOP3 := Lib.hid (HOP.out.alloc (.cells #[.int .i64 (k : Int)] 3))
              have HLT := Lib.hid (int_lit (w := wr.alloc (.cells #[.int .i64 (k : Int)] 3)) (B := w.heap.size) (z := k) (heap_alloc_new wr _) hbsz (by omega))
              have HAL3 := Lib.hid (HAL.out.alloc (.cells #[.int .i64 (k : Int)] 3))
              have HBI3 := Lib.hid (HBI2.out.below ((Below.refl _ wr).alloc (Nat.le_refl _) (.cells #[.int .i64 (k : Int)] 3)))
              have HBW3 := Lib.hid (HBW.out.alloc hbsz (.cells #[.int .i64 (k : Int)] 3))
              have hs3 : w.heap.size ≤ (wr.alloc (.cells #[.int .i64 (k : Int)] 3)).heap.size := by simp; omega
              have hal3 := Lib.hid HAL.out.1.lt
              clear h40 h92
              go_wp2_with (at_builtin; refine append_nums rfl _ _ rfl w.heap.size w.heap.size _ (natI op) rfl HOP3.out _ (natI [k]) rfl HLT.out (by simp [natI]; omega) hs3 ?_)
              intro v4 w4 ho4 hg4 hloc
              have hBI4 := HBI3.out.kept hg4 hnb2
              have hBW4 : Below w.heap.size w w4 := HBW3.out.grown hg4 hs3 (fun r e => (HOP3.out.1.lt r e).1)
              have hAL4 : w4.ownsInts w.heap.size 3 .i64 (.slice Aa al.length ca) (natI al) := HAL3.out.kept hg4 HAP.out.ne
              have hap4 : Apart (.slice Aa al.length ca) v4 := by
                intro g hg hg2
                rcases hloc with e | e
                · exact HAP.out g hg (e ▸ hg2)
                · have e2 : g = wr.heap.size + 1 := by rw [e] at hg2; exact (Option.some.inj hg2).symm
                  have := (hal3.out g hg).2
                  omega
              have HO4 := Lib.hid ho4
              have HBI4 := Lib.hid hBI4
              have HBW4 := Lib.hid hBW4
              have HAL4 := Lib.hid hAL4
              have HAP4 := Lib.hid hap4
              clear ho4 hg4 hBI4 hBW4 hAL4 hap4 hloc
              go_wp2
              go_roundw
              case rel => exact ⟨k + 1, false, al, op ++ [k], lo, by go_num, rfl, by omega, HN.out, HAL4.out, by rw [natI_app]; exact HO4.out, HAP4.out, fun e => by have := HKL.out; omega, HBI4.out, HBW4.out⟩
              case measure => simp [intOf]; omega
            · have g2 : ((b.toNat : Int) == 40) = false := by simp; omega
              by_cases h41 : b.toNat = 41
              · have g3 : ((b.toNat : Int) == 41) = true := by simp; omega
                rcases List.eq_nil_or_concat op with e0 | ⟨L', j, e0⟩
                · subst e0
                  have HN := Lib.hid (HST.out.nilOp false)
                  clear h41 h40 h92
                  go_wp2
                  go_roundw
                  case rel => exact ⟨k + 1, false, al, [], lo, by go_num, rfl, by omega, HN.out, HAL.out, HOP.out, HAP.out, fun _ => rfl, HBI2.out, HBW.out⟩
                  case measure => simp [intOf]; omega
                · rw [List.concat_eq_append] at e0
                  subst e0
                  have HN := Lib.hid (HST.out.shut HKL.out (by rw [HBK.out]; exact h41))
                  have hol2 : (L' ++ [j]).length = L'.length + 1 := by simp
                  have hop2 := HOP.out
                  have hap2 := HAP.out
                  rw [hol2] at hop2 hap2 hoc ⊢
                  obtain ⟨g, c, ev, hBg, hgl, _, hlc, hcm2⟩ := last_cell hop2
                  injection ev with ev1 _ ev3
                  subst ev1 ev3
                  have hcut := Lib.hid (cut_last hop2)
                  have hns2 := fun W => nslice_high (some ⟨g, 0, none⟩) (L'.length + 1) co L'.length (by omega) W
                  have HAP3 := Lib.hid (show Apart (.slice Aa al.length ca) (.slice (some ⟨g, 0, none⟩) L'.length co) from fun g' h h2 => hap2 g' h h2)
                  have hLs : L'.length ≤ 1000001 := by have := hlen.2; simp at this; omega
                  clear h41 h40 h92 hop2 hap2 hol2 HOP HAP hlen
                  go_wp2
                  go_roundw
                  case rel => exact ⟨k + 1, false, al, L', lo, by go_num, rfl, by omega, by have := HN.out; rwa [List.dropLast_concat] at this, HAL.out, hcut.out, HAP3.out, fun e => by have := HKL.out; omega, HBI2.out, HBW.out⟩
                  case measure => simp [intOf]; omega
              · have g3 : ((b.toNat : Int) == 41) = false := by simp; omega
                have HN := Lib.hid (HST.out.other HKL.out false (fun o j => by rw [HBK.out]; exact bareGo_plain HH0.out h92 h40 h41 _ o j))
                clear h41 h40 h92
                go_wp2
                go_roundw
                case rel => exact ⟨k + 1, false, al, op, lo, by go_num, rfl, by omega, HN.out, HAL.out, HOP.out, HAP.out, fun e => by have := HKL.out; omega, HBI2.out, HBW.out⟩
                case measure => simp [intOf]; omega
    · obtain rfl : k = s.size + 1 := by omega
      have hfin2 := hfin rfl
      have HST := Lib.hid hst
      have hln := hst.len
      clear hst
      go_wp2
      go_ret
      exact ⟨⟨al, ⟨_, rfl, hal⟩, HST.out.hop, HST.out.asc, by omega⟩, hbw⟩
end Go.Proofs.YtfbaknkmpilllaaGreatDoor

namespace Go.Proofs.YtfbaknkmpilllaaGreatDoor
open Go.RowKit
set_option linter.unusedSimpArgs false
set_option linter.unusedVariables false
def nameN (i k : Int) : List Int := [109, 65 + i % 26, 65 + i / 26 % 26, 48 + k % 10, 48 + k / 10 % 10, 48 + k / 100 % 10]
def nameL (i k : Int) : List UInt8 := (nameN i k).map fun n => UInt8.ofNat n.toNat
/-- The marks of list i from 'from' on. -/
def marks (i : Int) (from' n : Nat) : List (List UInt8) := (List.range n).map fun j => nameL i ((from' + j : Nat) : Int)
end Go.Proofs.YtfbaknkmpilllaaGreatDoor

namespace Go.Proofs.YtfbaknkmpilllaaGreatDoor
open Go.RowKit
set_option linter.unusedSimpArgs false
set_option linter.unusedVariables false
/-- The marks of list i from 'from' on. -/
def dmark (i k : Int) : Dfn := ⟨nameL i k, [], [], [], false⟩
def dmarks (i : Int) (from' n : Nat) : List Dfn := (List.range n).map fun j => dmark i ((from' + j : Nat) : Int)
end Go.Proofs.YtfbaknkmpilllaaGreatDoor
namespace Go.Proofs.YtfbaknkmpilllaaGreatDoor
open Go.RowKit
set_option linter.unusedSimpArgs false
set_option linter.unusedVariables false
set_option maxRecDepth 100000
abbrev DefsAt (w : World) (A : Option Addr) (cap : Nat) (X : List Dfn) : Prop := EltsAt w dfC 5 A cap X
theorem DefsAt.cells5 {w : World} {A : Option Addr} {cap : Nat} {X : List Dfn} (h : DefsAt w A cap X) {k : Nat} (hk : k < X.length) :
    ∃ b off, A = some ⟨b, off, none⟩ ∧ b < w.heap.size ∧ w.cell? ⟨b, off + k * 5, none⟩ = some (.string ⟨X[k].nm.toArray⟩) ∧ w.cell? ⟨b, off + k * 5 + 1, none⟩ = some (.string ⟨X[k].url.toArray⟩) ∧
      w.cell? ⟨b, off + k * 5 + 2, none⟩ = some (.string ⟨X[k].ttl.toArray⟩) ∧ w.cell? ⟨b, off + k * 5 + 3, none⟩ = some (.string ⟨X[k].txt.toArray⟩) ∧ w.cell? ⟨b, off + k * 5 + 4, none⟩ = some (.bool X[k].nt) := by
  obtain ⟨b, off, e, hlt, hc⟩ := h.at hk
  exact ⟨b, off, e, hlt, hc 0 _ rfl, hc 1 _ rfl, hc 2 _ rfl, hc 3 _ rfl, hc 4 _ rfl⟩
theorem DefsAt.drew {w : World} {A : Option Addr} {cap : Nat} {X : List Dfn} (h : DefsAt w A cap X) (n : Nat) : DefsAt (w.drewN n) A cap X := EltsAt.heap (w := w) (w' := w.drewN n) rfl h
end Go.Proofs.YtfbaknkmpilllaaGreatDoor
namespace Go.Proofs.YtfbaknkmpilllaaGreatDoor
open Go.RowKit
set_option linter.unusedSimpArgs false
set_option linter.unusedVariables false
/-- Every row of texts stays as it was. -/
def DStrKept (w w' : World) : Prop := ∀ (g : Nat) (cs : Array Value) (fz : Nat × Nat), w.heap[g]? = some (.cells cs 43 fz) → w'.heap[g]? = some (.cells cs 43 fz)
theorem DStrKept.row {w w' : World} (h : DStrKept w w') {B : Nat} {v : Value} {n : Nat} {xs : List Value} (k : w.ownsRow B 43 5 v n xs) : w'.ownsRow B 43 5 v n xs := by
  refine ⟨k.1, ?_⟩
  rcases k.2 with hn | ⟨g, cap, cur, rfl, hB, hg, rest⟩
  · exact .inl hn
  · exact .inr ⟨g, cap, cur, rfl, hB, h _ _ _ hg, rest⟩
theorem DStrKept.refl (w : World) : DStrKept w w := fun _ _ _ h => h
theorem DStrKept.trans {a b c : World} (h : DStrKept a b) (k : DStrKept b c) : DStrKept a c := fun g cs fz hg => k g cs fz (h g cs fz hg)
theorem DStrKept.below {w w' : World} (h : Below w.heap.size w w') : DStrKept w w' := fun g cs fz hg => (h.block g (Array.getElem?_eq_some_iff.1 hg).1).trans hg
theorem DStrKept.drew (w : World) : DStrKept w w.drew := fun _ _ _ h => h
theorem DStrKept.alloc (w : World) (o : Obj) : DStrKept w (w.alloc o) := fun g cs fz hg => (Below.heap_alloc w o g (Array.getElem?_eq_some_iff.1 hg).1).trans hg
theorem DStrKept.grown {w w' : World} {B : Nat} {e : TypeId} {size : Nat} {v : Value} {n : Nat} {xs : List Value} (h : w.ownsRow B e size v n xs) (hg : w.grownBy w' v.ownBlock) (hne : e ≠ 43) : DStrKept w w' := by
  intro g cs fz hgg
  rw [hg.block g (Array.getElem?_eq_some_iff.1 hgg).1 (fun e1 => own_ne h hgg hne e1.symm)]
  exact hgg
theorem DStrKept.setCell {w : World} {b : Nat} {cs : Array Value} {t : TypeId} {fz : Nat × Nat} (hb : w.heap[b]? = some (.cells cs t fz)) (hne : t ≠ 43) (i : Nat) (u : Value) : DStrKept w (w.setCell ⟨b, i, none⟩ u) := by
  intro g cs' fz' hg
  have hgb : g ≠ b := by
    rintro rfl
    rw [hb] at hg
    injection hg with hg
    injection hg with _ ht
    exact hne ht
  rw [Below.heap_setCell w ⟨b, i, none⟩ u g hgb]
  exact hg
end Go.Proofs.YtfbaknkmpilllaaGreatDoor
namespace Go.Proofs.YtfbaknkmpilllaaGreatDoor
open Go.RowKit
set_option linter.unusedSimpArgs false
set_option linter.unusedVariables false
/-- Each list of vs is read as its dmarks. -/
def DMarked (w : World) (vs : List Value) : Prop := ∀ (i : Nat) (v : Value), vs[i]? = some v → ∃ A n c, v = .slice A n c ∧ n ≤ 1000000 ∧ DefsAt w A c (dmarks i 0 n)
theorem DMarked.below {w w' : World} {vs : List Value} (h : DMarked w vs) (hb : Below w.heap.size w w') : DMarked w' vs := fun i v hv => by
  obtain ⟨A, n, c, e, hn, hr⟩ := h i v hv
  exact ⟨A, n, c, e, hn, hr.below hb⟩
end Go.Proofs.YtfbaknkmpilllaaGreatDoor
namespace Go.Proofs.YtfbaknkmpilllaaGreatDoor
open Go.RowKit
set_option linter.unusedSimpArgs false
set_option linter.unusedVariables false
end Go.Proofs.YtfbaknkmpilllaaGreatDoor
namespace Go.Proofs.YtfbaknkmpilllaaGreatDoor
open Go.RowKit
set_option linter.unusedSimpArgs false
set_option linter.unusedVariables false
/-- A list of definitions that can be read in a block whose cells are definitions. -/
def DSeen (w : World) (v : Value) (X : List Dfn) : Prop :=
  ∃ A c, v = .slice A X.length c ∧ c ≤ maxLen ∧ X.length ≤ c ∧ (X = [] ∨ ∃ g cur, A = some ⟨g, 0, none⟩ ∧ w.heap[g]? = some (.cells cur 43 (0, 0)) ∧ cur.toList.take (X.length * 5) = flt dfC X)
section
variable {w w' : World} {v : Value} {X : List Dfn}
theorem DSeen.row (h : DSeen w v X) : ∃ A c, v = .slice A X.length c ∧ DefsAt w A c X := by
  obtain ⟨A, c, rfl, hc, hl, h⟩ := h
  refine ⟨A, c, rfl, hl, hc, ?_⟩
  rcases h with h | ⟨g, cur, rfl, hg, ht⟩
  · exact Or.inl h
  · refine Or.inr ⟨g, 0, rfl, (Array.getElem?_eq_some_iff.1 hg).1, fun k hk j u hu => ?_⟩
    rw [Nat.zero_add, cell_of_row w g _ cur _ (0, 0) hg]
    have h1 := flt_get dfC_length X k hk j u hu
    rw [← ht, List.getElem?_take] at h1
    split at h1
    · simpa using h1
    · cases h1
theorem DSeen.kept (h : DSeen w v X) {row : Option Nat} (hg : w.grownBy w' row) (hn : ∀ g, v.ownBlock = some g → row ≠ some g) : DSeen w' v X := by
  obtain ⟨A, c, rfl, hc, hl, h⟩ := h
  refine ⟨A, c, rfl, hc, hl, ?_⟩
  rcases h with h | ⟨g, cur, rfl, hh, ht⟩
  · exact Or.inl h
  · exact Or.inr ⟨g, cur, rfl, (hg.block g (Array.getElem?_eq_some_iff.1 hh).1 (fun e => hn g rfl e.symm)).trans hh, ht⟩
theorem DSeen.below (h : DSeen w v X) (hb : Below w.heap.size w w') : DSeen w' v X := h.kept (grownBy_of_below hb none) (fun g _ => by simp)
end
end Go.Proofs.YtfbaknkmpilllaaGreatDoor
namespace Go.Proofs.YtfbaknkmpilllaaGreatDoor
open Go.RowKit
set_option linter.unusedSimpArgs false
set_option linter.unusedVariables false
end Go.Proofs.YtfbaknkmpilllaaGreatDoor

namespace Go.Proofs.YtfbaknkmpilllaaGreatDoor
open Go.RowKit
set_option linter.unusedSimpArgs false
set_option linter.unusedVariables false
set_option maxRecDepth 100000
theorem decode_step (s : ByteArray) (k : Nat) (h : k < s.size) : 1 ≤ (Utf8.decode s k).2 := by
  by_cases ha : s[k].toNat < 128
  · rw [decode_ascii s k h ha]; exact Nat.le_refl _
  · unfold Utf8.decode
    dsimp only
    split
    · simp
    · split
      · split <;> simp
      · split
        · split <;> simp
        · split
          · split <;> simp
          · simp
theorem text_of' (l : List UInt8) : ∃ X : ByteArray, (⟨l.toArray⟩ : ByteArray) = X ∧ X.data.toList = l := ⟨⟨l.toArray⟩, rfl, rfl⟩
end Go.Proofs.YtfbaknkmpilllaaGreatDoor

namespace Go.Proofs.YtfbaknkmpilllaaGreatDoor
open Go.RowKit
set_option linter.unusedSimpArgs false
set_option linter.unusedVariables false
/-- A builder stays where nothing below is turned. -/
theorem isB_below {T e : TypeId} {B b : Nat} {bs : List Value} {w w' : World} (h : Lib.IsBuilderF T e B b bs w) (hb : Below w.heap.size w w') : Lib.IsBuilderF T e B b bs w' := by
  have go : ∀ p, Lib.BuilderAtF T e B b p bs w → Lib.BuilderAtF T e B b p bs w' := by
    rintro p ⟨hB, v, hbk, hown, hne⟩
    refine ⟨hB, v, (hb.block b (Array.getElem?_eq_some_iff.1 hbk).1).trans hbk, ⟨hown.1, ?_⟩, hne⟩
    rcases hown.2 with hn | ⟨g, cap, cur, fz, hv, hbg, hg, rest⟩
    · exact .inl hn
    · exact .inr ⟨g, cap, cur, fz, hv, hbg, (hb.block g (Array.getElem?_eq_some_iff.1 hg).1).trans hg, rest⟩
  exact h.elim (fun x => .inl (go _ x)) (fun x => .inr (go _ x))
def segL (l : List UInt8) (t k : Nat) : List UInt8 := (l.drop t).take (k - t)
theorem seg_list (s : ByteArray) (t k : Nat) : (s.extract t k).data.toList = segL s.data.toList t k := by
  rw [ByteArray.data_extract, Array.toList_extract, List.extract_eq_take_drop]; rfl
theorem seg_more (l m : List UInt8) (t k d : Nat) (h : t ≤ k) (hd : l.drop k = m ++ l.drop (k + d)) (hm : m.length = d) : segL l t (k + d) = segL l t k ++ m := by
  have h1 : (l.drop k).take d = m := by rw [hd, List.take_append_of_le_length (by omega), List.take_of_length_le (by omega)]
  unfold segL
  rw [show k + d - t = (k - t) + d from by omega, List.take_add, List.drop_drop, show t + (k - t) = k from by omega, h1]
end Go.Proofs.YtfbaknkmpilllaaGreatDoor

namespace Go.Proofs.YtfbaknkmpilllaaGreatDoor
open Go.RowKit
set_option linter.unusedSimpArgs false
set_option linter.unusedVariables false
/-- What stands when byte k is to be read, and all up to byte t is told. -/
def UnSt (l acc : List UInt8) (k t : Nat) : Prop :=
  (t ≤ k ∧ acc ++ segL l t k ++ unL (l.drop k) = unL l) ∨ (k < t ∧ acc ++ unL (l.drop t) = unL l ∧ (l.getD (t - 1) 0).toNat < 128)
def TgUnRel (s : ByteArray) (w : World) (z : Value) (wr : World) : Prop :=
  ∃ (k t : Nat) (acc : List UInt8), z = .int .i64 t ∧ k ≤ s.size ∧ t ≤ s.size ∧ wr.heap[w.heap.size + 1]? = some (.stringIter s k) ∧ Lib.IsBuilderF 69 5 w.heap.size w.heap.size (Lib.byteCells acc) wr ∧ Below w.heap.size w wr ∧ acc.length ≤ 4 * t ∧ UnSt s.data.toList acc k t
theorem drop_all' (s : ByteArray) (k : Nat) (h : ¬ k < s.size) : s.data.toList.drop k = [] := List.drop_eq_nil_of_le (by simp; omega)
theorem segL_nil (l : List UInt8) (t : Nat) : segL l t t = [] := by simp [segL]
/-- Bytes that stay. -/
theorem UnSt.more {l acc m : List UInt8} {k t d : Nat} (ht : t ≤ k) (h : UnSt l acc k t) (hd : l.drop k = m ++ l.drop (k + d)) (hm : m.length = d) (hu : unL (l.drop k) = m ++ unL (l.drop (k + d))) : UnSt l acc (k + d) t := by
  rcases h with ⟨_, h⟩ | ⟨h, _⟩
  · refine Or.inl ⟨by omega, ?_⟩
    rw [seg_more l m t k d ht hd hm, ← h, hu]
    simp
  · omega
theorem UnSt.at {l acc : List UInt8} {k t : Nat} (ht : t ≤ k) (h : UnSt l acc k t) : acc ++ segL l t k ++ unL (l.drop k) = unL l := by
  rcases h with ⟨_, h⟩ | ⟨h, _⟩
  · exact h
  · omega
/-- Bytes that are told already. -/
theorem UnSt.skip {l acc m : List UInt8} {k t d : Nat} (ht : k < t) (h : UnSt l acc k t) (hd : l.drop k = m ++ l.drop (k + d)) (hm : m.length = d) (hh : d = 1 ∨ ∀ b ∈ m, 128 ≤ b.toNat) (hkl : t ≤ l.length) : UnSt l acc (k + d) t := by
  rcases h with ⟨h, _⟩ | ⟨_, h, hb⟩
  · omega
  · have hle : k + d ≤ t := by
      rcases hh with rfl | hh
      · omega
      · by_cases hc : k + d ≤ t
        · exact hc
        · have h1 : (l.drop k).getD (t - 1 - k) 0 = l.getD (t - 1) 0 := by
            rw [getD_drop, show k + (t - 1 - k) = t - 1 from by omega]
          rw [hd, List.getD_eq_getElem?_getD, List.getElem?_append_left (by omega), List.getElem?_eq_getElem (by omega), Option.getD_some] at h1
          have := hh _ (List.getElem_mem (l := m) (n := t - 1 - k) (by omega))
          rw [h1] at this
          omega
    by_cases he : k + d = t
    · refine Or.inl ⟨by omega, ?_⟩
      rw [he, segL_nil, List.append_nil]
      exact h
    · exact Or.inr ⟨by omega, h, hb⟩
/-- What is written for a backslash, or an entity. -/
theorem UnSt.esc {l acc r : List UInt8} {b : UInt8} {k t : Nat} (ht : t ≤ k) (h : UnSt l acc k t) (hr : l.drop k = b :: r) (h0 : 0 < (escL (b :: r)).2) : UnSt l (acc ++ segL l t k ++ (escL (b :: r)).1) (k + 1) (k + (escL (b :: r)).2) := by
  have h1 := h.at ht
  rw [hr, unL_esc h0, ← hr, List.drop_drop] at h1
  rw [← hr] at h0 ⊢
  have h2 := (escL_ok (l.drop k)).2 h0
  by_cases he : (escL (l.drop k)).2 = 1
  · refine Or.inl ⟨by omega, ?_⟩
    rw [he] at h1 ⊢
    rw [segL_nil, List.append_nil, ← h1]
    simp
  · refine Or.inr ⟨by omega, ?_, ?_⟩
    · rw [← h1]; simp
    · have h3 := h2.2
      rw [getD_drop, show k + ((escL (l.drop k)).2 - 1) = k + (escL (l.drop k)).2 - 1 from by omega] at h3
      exact h3
set_option maxHeartbeats 4000000 in
set_option maxRecDepth 100000 in
theorem unescape_any (s : ByteArray) (w : World) (hn : NamedIs w) (hs : s.size ≤ 1099511627776) :
    Calls Tryz.prog 175 #[.string s] w fun e w' => e = .returned (.string ⟨(unL s.data.toList).toArray⟩) ∧ Below w.heap.size w w' := by
  have HN := Lib.hid hn
  have hll : s.data.toList.length = s.size := by simp
  have HLL := Lib.hid hll
  clear hn hll
  go_enter Tryz.func175, Tryz.ntmps175
  go_wp2_with fail
  go_loopw [4] (fun z wr => TgUnRel s w z wr) (fun _ wr => s.size - wr.iterPos (w.heap.size + 1))
  case atStart =>
    refine ⟨0, 0, [], rfl, Nat.zero_le _, Nat.zero_le _, ?_, (Lib.IsBuilderF.of (Lib.fresh_isBuilder 69 5 w)).alloc _, ((Below.refl _ w).alloc (Nat.le_refl _) _).alloc (by simp) _, by simp, Or.inl ⟨Nat.le_refl _, by simp [segL]⟩⟩
    have := World.iter_heap (w.alloc (.cells #[.pointer none, .slice none 0 0] 69)) s 0
    simpa using this
  case round =>
    obtain ⟨k, t, acc, rfl, hk, htz, hit, hI, hbw, hal, hst⟩ := hrel
    have hsz : w.heap.size + 1 < wr.heap.size := (Array.getElem?_eq_some_iff.1 hit).1
    by_cases hp : k < s.size
    · have hnx : ∀ ty, (Instr.next (.pointer (some ⟨w.heap.size + 1, 0, none⟩)) true ty).run Tryz.prog wr = _ := fun ty => Lib.run_next_any_at wr (w.heap.size + 1) s k ty hit hp
      have hI2 := hI.iterAt hit (k + (Utf8.decode s k).2)
      have hit2 := Lib.iterAt_heap wr (w.heap.size + 1) s k (k + (Utf8.decode s k).2) hit
      have hbw2 := Lib.below_iterAt hbw (k := w.heap.size + 1) (by omega) s (k + (Utf8.decode s k).2)
      have hsz2 : w.heap.size + 1 < (wr.iterAt (w.heap.size + 1) s (k + (Utf8.decode s k).2)).heap.size := by rw [Lib.iterAt_size]; omega
      have Hit := Lib.hid hit
      have HSt := Lib.hid hst
      have HI2 := Lib.hid hI2
      clear hit hbw hI hst hI2
      by_cases hkt : k < t
      · -- told already
        have hgo : 1 ≤ (Utf8.decode s k).2 ∧ k + (Utf8.decode s k).2 ≤ s.size ∧ UnSt s.data.toList acc (k + (Utf8.decode s k).2) t := by
          by_cases ha : s[k].toNat < 128
          · rw [decode_ascii s k hp ha]
            exact ⟨Nat.le_refl _, hp, UnSt.skip (m := [s[k]]) (d := 1) hkt HSt.out (get_list s k hp) rfl (Or.inl rfl) (by rw [HLL.out]; omega)⟩
          · obtain ⟨d1, d2, d3, m, hm1, hm2, hm3⟩ := rune_high s k hp (by omega)
            exact ⟨d1, d2, UnSt.skip hkt HSt.out hm1 hm2 (Or.inr hm3) (by rw [HLL.out]; omega)⟩
        obtain ⟨g1, g2, g3⟩ := hgo
        have HG := Lib.hid g3
        clear g3
        generalize (Utf8.decode s k).1 = r at *
        generalize (Utf8.decode s k).2 = d at *
        go_wp2
        go_roundw
        case rel => exact ⟨k + d, t, acc, rfl, by omega, by omega, hit2, HI2.out, hbw2, by omega, HG.out⟩
        case measure => simp only [World.iterPos, hit2, Hit.out]; omega
      · have hkt2 : t ≤ k := by omega
        by_cases ha : s[k].toNat < 128
        · have hd : Utf8.decode s k = (s[k].toNat, 1) := decode_ascii s k hp ha
          have HI3 := Lib.hid (show Lib.IsBuilderF 69 5 w.heap.size w.heap.size (Lib.byteCells acc) (wr.iterAt (w.heap.size + 1) s (k + 1)) from by have := HI2.out; rw [hd] at this; exact this)
          clear HI2
          rw [hd] at hnx hit2 hbw2 hsz2
          simp only at hnx hit2 hbw2 hsz2
          clear hd
          have HGL := Lib.hid (get_list s k hp)
          have stay : (escL (s[k] :: s.data.toList.drop (k + 1))).2 = 0 → UnSt s.data.toList acc (k + 1) t := by
            intro he
            refine UnSt.more (m := [s[k]]) hkt2 HSt.out (by rw [HGL.out]; rfl) rfl ?_
            rw [HGL.out, unL_byte he]
            rfl
          by_cases hb : s[k].toNat = 92 ∨ s[k].toNat = 38
          · have ce := fun w1 hn => escaped_any (s.extract k s.size) w1 hn (by rw [ext_size]; omega)
            rw [drop_ext, HGL.out] at ce
            have hes := escL_ok (s[k] :: s.data.toList.drop (k + 1))
            have hle : (s[k] :: s.data.toList.drop (k + 1)).length = s.size - k := by
              rw [← HGL.out, List.length_drop, HLL.out]
            rw [hle] at hes
            unfold escRet at ce
            have HEsc := Lib.hid (fun h0 => UnSt.esc hkt2 HSt.out HGL.out h0)
            have hsl := slice_lo s k k rfl (by omega)
            have hsl2 := slice_lohi s t k t k rfl rfl hkt2 (by omega)
            have HSeg := Lib.hid (show (s.extract t k).data.toList = segL s.data.toList t k from seg_list s t k)
            have hzt : (s.extract t k).size = k - t := by rw [ByteArray.size_extract]; omega
            have HStay := Lib.hid stay
            have hn2 := HN.out.below hbw2
            have HCE := Lib.hid (ce _ hn2)
            clear ce stay hle hn2
            generalize escL (s[k] :: s.data.toList.drop (k + 1)) = x at *
            obtain ⟨X, z⟩ := x
            simp only at hes HEsc HStay HCE
            have fb : ((s[k].toNat : Int) != 92) = false ∨ ((s[k].toNat : Int) != 92) = true ∧ ((s[k].toNat : Int) != 38) = false := by
              rcases hb with hb | hb
              · left; simp; omega
              · right; constructor <;> simp <;> omega
            clear hb
            generalize s[k] = b at *
            generalize s.extract k s.size = T at *
            generalize s.extract t k = T2 at *
            obtain ⟨hX, hes2⟩ := hes
            by_cases h0 : 0 < z
            · obtain ⟨hz1, _⟩ := hes2 h0
              have HE2 := Lib.hid (HEsc.out h0)
              clear hes2 HEsc HStay
              rcases fb with f1 | ⟨f1, f2⟩
              all_goals
                go_wp2_with fail
                refine HCE.out.mono ?_
                rintro e w1 ⟨rfl, b1⟩
                have hI4 := Lib.hid (isB_below HI3.out b1)
                have hit3 := Lib.hid ((b1.block _ (by omega)).trans hit2)
                have hbw3 := hbw2.trans (b1.mono (by omega))
                have hs3 := b1.size
                clear hbw2 hit2
                go_wp2_with fail
                refine (Tryz.Builder_WriteString_k w.heap.size w.heap.size _ T2 _ hI4.out (by rw [Lib.byteCells_length]; omega) (by omega)).mono ?_
                rintro e w2 ⟨rfl, g2, b2, k2⟩
                have hit4 := Lib.hid (k2.iter hit3.out (by omega))
                have hs4 := b2.size
                have G2 : Lib.IsBuilderF 69 5 w.heap.size w.heap.size (Lib.byteCells (acc ++ T2.data.toList)) w2 := by rw [Lib.byteCells_append]; exact Or.inr g2
                go_wp2_with fail
                refine (Tryz.Builder_WriteString_k w.heap.size w.heap.size _ ⟨X.toArray⟩ _ G2 (by rw [Lib.byteCells_length, List.length_append, str_size]; simp; omega) (by omega)).mono ?_
                rintro e w3 ⟨rfl, g3, b3, k3⟩
                have hit5 := k3.iter hit4.out (by omega)
                have G3 : Lib.IsBuilderF 69 5 w.heap.size w.heap.size (Lib.byteCells (acc ++ T2.data.toList ++ X)) w3 := by rw [Lib.byteCells_append]; exact Or.inr g3
                have HG3 := Lib.hid G3
                clear G2 G3 g2 g3
                go_wp2
                go_roundw
                case rel => exact ⟨k + 1, k + z, acc ++ T2.data.toList ++ X, by go_num, by omega, by omega, hit5, HG3.out, hbw3.trans (b2.trans b3), by simp only [List.length_append]; simp; omega, by rw [HSeg.out]; exact HE2.out⟩
                case measure => simp only [World.iterPos, hit5, Hit.out]; omega
            · obtain rfl : z = 0 := by omega
              have HS2 := Lib.hid (HStay.out rfl)
              clear hes2 HEsc HStay
              rcases fb with f1 | ⟨f1, f2⟩
              all_goals
                go_wp2_with fail
                refine HCE.out.mono ?_
                rintro e w1 ⟨rfl, b1⟩
                have hI4 := Lib.hid (isB_below HI3.out b1)
                have hit3 := (b1.block _ (by omega)).trans hit2
                have hbw3 := hbw2.trans (b1.mono (by omega))
                clear hbw2 hit2
                go_wp2
                go_roundw
                case rel => exact ⟨k + 1, t, acc, rfl, by omega, by omega, hit3, hI4.out, hbw3, by omega, HS2.out⟩
                case measure => simp only [World.iterPos, hit3, Hit.out]; omega
          · have HS2 := Lib.hid (stay (escL_none (by omega) (by omega)))
            have f1 : ((s[k].toNat : Int) != 92) = true := by simp; omega
            have f2 : ((s[k].toNat : Int) != 38) = true := by simp; omega
            clear stay hb
            generalize s[k] = b at *
            go_wp2
            go_roundw
            case rel => exact ⟨k + 1, t, acc, rfl, by omega, by omega, hit2, HI3.out, hbw2, by omega, HS2.out⟩
            case measure => simp only [World.iterPos, hit2, Hit.out]; omega
        · obtain ⟨d1, d2, d3, m, hm1, hm2, hm3⟩ := rune_high s k hp (by omega)
          have HS2 := Lib.hid (UnSt.more hkt2 HSt.out hm1 hm2 (by rw [hm1]; exact unL_high m _ hm3))
          have f1 : (((Utf8.decode s k).1 : Int) != 92) = true := by simp; omega
          have f2 : (((Utf8.decode s k).1 : Int) != 38) = true := by simp; omega
          clear hm1 hm2 hm3 ha
          generalize (Utf8.decode s k).1 = r at *
          generalize (Utf8.decode s k).2 = d at *
          go_wp2
          go_roundw
          case rel => exact ⟨k + d, t, acc, rfl, by omega, by omega, hit2, HI2.out, hbw2, by omega, HS2.out⟩
          case measure => simp only [World.iterPos, hit2, Hit.out]; omega
    · have hnx : ∀ ty, (Instr.next (.pointer (some ⟨w.heap.size + 1, 0, none⟩)) true ty).run Tryz.prog wr = _ := fun ty => Lib.run_next_end_at wr (w.heap.size + 1) s k ty hit hp
      obtain rfl : k = s.size := by omega
      have HE := Lib.hid (show acc ++ (s.extract t s.size).data.toList = unL s.data.toList from by
        have := hst.at htz
        rw [drop_all' s _ hp, unL_nil, List.append_nil] at this
        rw [seg_list, this])
      have hsl := slice_lo s t t rfl htz
      have hz1 : (s.extract t s.size).size ≤ 1099511627776 := by rw [ByteArray.size_extract]; omega
      have HI2 := Lib.hid hI
      clear hst hI
      generalize s.extract t s.size = T at *
      go_wp2_with fail
      refine (Tryz.Builder_WriteString_k w.heap.size w.heap.size _ T _ HI2.out (by rw [Lib.byteCells_length]; omega) (by have := hbw.size; omega)).mono ?_
      rintro e w2 ⟨rfl, g2, b2, k2⟩
      have hs4 := b2.size
      have G2 : Lib.IsBuilderF 69 5 w.heap.size w.heap.size (Lib.byteCells (acc ++ T.data.toList)) w2 := by rw [Lib.byteCells_append]; exact Or.inr g2
      go_wp2_with fail
      refine (Tryz.Builder_String_any_k w.heap.size w.heap.size _ _ G2 (by omega)).mono ?_
      rintro e w3 ⟨rfl, _, b3, _⟩
      go_wp2
      go_ret
      exact ⟨by rw [← HE.out]; rfl, hbw.trans (b2.trans b3)⟩
end Go.Proofs.YtfbaknkmpilllaaGreatDoor
namespace Go.Proofs.YtfbaknkmpilllaaGreatDoor
open Go.RowKit
set_option linter.unusedSimpArgs false
set_option linter.unusedVariables false
theorem ret_sib {a b : ByteArray} {c d : Int} {e f : Bool} (h : a = b) (k : c = d) (m : e = f) : Ending.returned (.tuple #[.string a, .int .i64 c, .bool e]) = .returned (.tuple #[.string b, .int .i64 d, .bool f]) := by rw [h, k, m]
/-- A text, how many bytes, and whether it is there. -/
def tib (x : List UInt8 × Nat × Bool) : Value := .tuple #[.string ⟨x.1.toArray⟩, .int .i64 x.2.1, .bool x.2.2]
theorem hasB_mem (nv : List UInt8) (b : UInt8) : hasB nv b.toNat = decide (b ∈ nv) := by
  unfold hasB
  rw [Bool.eq_iff_iff, List.any_eq_true, decide_eq_true_iff]
  constructor
  · rintro ⟨x, hx, he⟩
    have : x = b := UInt8.toNat_inj.1 (by have := beq_iff_eq.1 he; omega)
    rwa [← this]
  · intro h
    exact ⟨b, h, by simp⟩
def BtwRel (s : ByteArray) (c : UInt8) (nv : List UInt8) (w : World) (z : Value) (wr : World) : Prop :=
  ∃ (k : Nat) (bh : Bool), z = .bool bh ∧ k ≤ s.size ∧ wr.heap[w.heap.size]? = some (.stringIter s k) ∧ Below w.heap.size w wr ∧ (k = 0 ∧ bh = false ∨ 1 ≤ k ∧ btwGo c nv (s.data.toList.drop k) bh k = btwGo c nv (s.data.toList.drop 1) false 1)
theorem btwL_none {c : UInt8} {nv l : List UInt8} (h : btwGo c nv (l.drop 1) false 1 = none) : tib (btwL c nv l) = .tuple #[.string ByteArray.empty, .int .i64 0, .bool false] := by
  unfold btwL; rw [h]; rfl
theorem btwL_some {c : UInt8} {nv l : List UInt8} {i : Nat} (h : btwGo c nv (l.drop 1) false 1 = some i) : tib (btwL c nv l) = .tuple #[.string ⟨(unL ((l.take i).drop 1)).toArray⟩, .int .i64 ((i : Int) + 1), .bool true] := by
  unfold btwL; rw [h]; rfl
theorem part_str (s : ByteArray) (i j : Nat) : (s.extract i j).data.toList = (s.data.toList.take j).drop i := by
  rw [seg_list, segL, List.drop_take]
set_option maxHeartbeats 4000000 in
set_option maxRecDepth 100000 in
theorem between_any (s : ByteArray) (c : UInt8) (nv : ByteArray) (w : World) (hn : NamedIs w) (h0 : 0 < s.size) (hb0 : s[0].toNat < 128) (hc : c.toNat < 128) (hnv : ∀ b ∈ nv.data.toList, b.toNat < 128) (hz : nv.size ≤ 1000) (hs : s.size ≤ 1099511627776) :
    Calls Tryz.prog 173 #[.string s, .int .i32 c.toNat, .string nv] w fun e w' => e = .returned (tib (btwL c nv.data.toList s.data.toList)) ∧ Below w.heap.size w w' := by
  have HN := Lib.hid hn
  have cc := fun (r : Int) (w : World) (h0 : 0 ≤ r) (h9 : r ≤ 1114111) => containsRune_any nv r w h0 h9 hnv hz
  have HCC := Lib.hid cc
  have HNV := Lib.hid hnv
  clear hn cc hnv
  go_enter Tryz.func173, Tryz.ntmps173
  go_wp2_with fail
  go_loopw [9] (fun z wr => BtwRel s c nv.data.toList w z wr) (fun _ wr => s.size - wr.iterPos w.heap.size)
  case atStart => exact ⟨0, false, rfl, Nat.zero_le _, World.iter_heap w s 0, (Below.refl _ w).alloc (Nat.le_refl _) _, Or.inl ⟨rfl, rfl⟩⟩
  case round =>
    obtain ⟨k, bh, rfl, hk, hit, hbw, hst⟩ := hrel
    have hsz : w.heap.size < wr.heap.size := (Array.getElem?_eq_some_iff.1 hit).1
    by_cases hp : k < s.size
    · have hnx : ∀ ty, (Instr.next (.pointer (some ⟨w.heap.size, 0, none⟩)) true ty).run Tryz.prog wr = _ := fun ty => Lib.run_next_any_at wr w.heap.size s k ty hit hp
      have hit2 := Lib.iterAt_heap wr w.heap.size s k (k + (Utf8.decode s k).2) hit
      have hbw2 := Lib.below_iterAt hbw (k := w.heap.size) (by omega) s (k + (Utf8.decode s k).2)
      have hsz2 : w.heap.size < (wr.iterAt w.heap.size s (k + (Utf8.decode s k).2)).heap.size := by rw [Lib.iterAt_size]; omega
      have Hit := Lib.hid hit
      clear hit hbw
      by_cases hk0 : k = 0
      · subst hk0
        rcases hst with ⟨_, rfl⟩ | ⟨h1, _⟩
        · rw [decode_ascii s 0 hp hb0] at hnx hit2 hbw2
          simp only at hnx hit2 hbw2
          generalize s[0] = b at *
          go_wp2
          go_roundw
          case rel => exact ⟨1, false, rfl, by omega, hit2, hbw2, Or.inr ⟨Nat.le_refl _, rfl⟩⟩
          case measure => simp only [World.iterPos, hit2, Hit.out]; omega
        · omega
      · have hgo : btwGo c nv.data.toList (s.data.toList.drop k) bh k = btwGo c nv.data.toList (s.data.toList.drop 1) false 1 := by
          rcases hst with ⟨h1, _⟩ | ⟨_, h1⟩
          · omega
          · exact h1
        clear hst
        have fk : ((k : Int) == 0) = false := by simp; omega
        by_cases ha : s[k].toNat < 128
        · have hd : Utf8.decode s k = (s[k].toNat, 1) := decode_ascii s k hp ha
          rw [hd] at hnx hit2 hbw2 hsz2
          simp only at hnx hit2 hbw2 hsz2
          clear hd
          rw [get_list s k hp] at hgo
          have hsl := slice_lohi s 1 k 1 k rfl rfl (by omega) (by omega)
          have hpl := part_str s 1 k
          generalize s[k] = b at *
          by_cases hb0' : b.toNat = 0
          · have f0 : ((b.toNat : Int) == 0) = true := by simp; omega
            have HR := Lib.hid (btwL_none (l := s.data.toList) (hgo.symm.trans (btwGo_zero hb0')))
            clear hgo hb0' hpl
            go_wp2
            go_ret3
            exact ⟨by rw [HR.out]; rfl, hbw2⟩
          · have f0 : ((b.toNat : Int) == 0) = false := by simp; omega
            cases bh with
            | true =>
              have HR := Lib.hid ((btwGo_bh hb0').symm.trans hgo)
              clear hgo hb0' hpl
              go_wp2
              go_roundw
              case rel => exact ⟨k + 1, false, rfl, by omega, hit2, hbw2, Or.inr ⟨by omega, HR.out⟩⟩
              case measure => simp only [World.iterPos, hit2, Hit.out]; omega
            | false =>
              by_cases h92 : b.toNat = 92
              · have f1 : ((b.toNat : Int) == 92) = true := by simp; omega
                have HR := Lib.hid ((btwGo_slash h92).symm.trans hgo)
                clear hgo hb0' h92 hpl
                go_wp2
                go_roundw
                case rel => exact ⟨k + 1, true, rfl, by omega, hit2, hbw2, Or.inr ⟨by omega, HR.out⟩⟩
                case measure => simp only [World.iterPos, hit2, Hit.out]; omega
              · have f1 : ((b.toNat : Int) == 92) = false := by simp; omega
                by_cases hbc : b = c
                · have f2 : ((b.toNat : Int) == (c.toNat : Int)) = true := by simp [hbc]
                  have HR := Lib.hid (btwL_some (l := s.data.toList) (hgo.symm.trans (btwGo_shut hb0' h92 hbc)))
                  have hnn := HN.out.below hbw2
                  have cu := fun W hn => unescape_any (s.extract 1 k) W hn (by rw [ByteArray.size_extract]; omega)
                  rw [hpl] at cu
                  have HCU := Lib.hid (cu _ hnn)
                  clear hgo hb0' h92 hpl cu hbc hnn
                  generalize unL ((s.data.toList.take k).drop 1) = U at *
                  generalize s.extract 1 k = T at *
                  go_wp2_with fail
                  refine HCU.out.mono ?_
                  rintro e w1 ⟨rfl, b1⟩
                  have hbw3 := hbw2.trans (b1.mono (by omega))
                  go_wp2
                  go_ret3
                  exact ⟨by rw [HR.out]; rfl, hbw3⟩
                · have f2 : ((b.toNat : Int) == (c.toNat : Int)) = false := by
                    simp only [beq_eq_false_iff_ne, ne_eq]
                    intro e
                    exact hbc (UInt8.toNat_inj.1 (by omega))
                  have c3 := HCC.out b.toNat (wr.iterAt w.heap.size s (k + 1)) (by omega) (by omega)
                  rw [hasB_mem] at c3
                  by_cases hm : b ∈ nv.data.toList
                  · rw [decide_eq_true hm] at c3
                    have HR := Lib.hid (btwL_none (l := s.data.toList) (hgo.symm.trans (btwGo_never hb0' h92 hbc hm)))
                    have HC3 := Lib.hid c3
                    clear hgo hb0' h92 hpl hbc hm c3
                    go_wp2_with fail
                    refine HC3.out.mono ?_
                    rintro e w1 ⟨rfl, b1⟩
                    have hbw3 := hbw2.trans (b1.mono (by omega))
                    go_wp2
                    go_ret3
                    exact ⟨by rw [HR.out]; rfl, hbw3⟩
                  · rw [decide_eq_false hm] at c3
                    have HR := Lib.hid ((btwGo_on hb0' h92 hbc hm).symm.trans hgo)
                    have HC3 := Lib.hid c3
                    clear hgo hb0' h92 hpl hbc hm c3
                    go_wp2_with fail
                    refine HC3.out.mono ?_
                    rintro e w1 ⟨rfl, b1⟩
                    have hbw3 := hbw2.trans (b1.mono (by omega))
                    have hit3 := (b1.block _ hsz2).trans hit2
                    clear hit2 hbw2
                    go_wp2
                    go_roundw
                    case rel => exact ⟨k + 1, false, rfl, by omega, hit3, hbw3, Or.inr ⟨by omega, HR.out⟩⟩
                    case measure => simp only [World.iterPos, hit3, Hit.out]; omega
        · obtain ⟨d1, d2, d3, m, hm1, hm2, hm3⟩ := rune_high s k hp (by omega)
          have hd9 := decode_max s k
          rw [hm1, btwGo_rune c nv.data.toList hc HNV.out m _ bh k hm3 (by omega), hm2] at hgo
          have HR := Lib.hid hgo
          have c3 := HCC.out (Utf8.decode s k).1 (wr.iterAt w.heap.size s (k + (Utf8.decode s k).2)) (by omega) (by omega)
          rw [hasB_high HNV.out (by omega)] at c3
          have HC3 := Lib.hid c3
          have f0 : (((Utf8.decode s k).1 : Int) == 0) = false := by simp; omega
          have f1 : (((Utf8.decode s k).1 : Int) == 92) = false := by simp; omega
          have f2 : (((Utf8.decode s k).1 : Int) == (c.toNat : Int)) = false := by simp; omega
          clear hm1 hm2 hm3 ha hgo c3
          generalize (Utf8.decode s k).1 = r at *
          generalize (Utf8.decode s k).2 = d at *
          cases bh with
          | true =>
            go_wp2
            go_roundw
            case rel => exact ⟨k + d, false, rfl, by omega, hit2, hbw2, Or.inr ⟨by omega, HR.out⟩⟩
            case measure => simp only [World.iterPos, hit2, Hit.out]; omega
          | false =>
            go_wp2_with fail
            refine HC3.out.mono ?_
            rintro e w1 ⟨rfl, b1⟩
            have hbw3 := hbw2.trans (b1.mono (by omega))
            have hit3 := (b1.block _ hsz2).trans hit2
            clear hit2 hbw2
            go_wp2
            go_roundw
            case rel => exact ⟨k + d, false, rfl, by omega, hit3, hbw3, Or.inr ⟨by omega, HR.out⟩⟩
            case measure => simp only [World.iterPos, hit3, Hit.out]; omega
    · have hnx : ∀ ty, (Instr.next (.pointer (some ⟨w.heap.size, 0, none⟩)) true ty).run Tryz.prog wr = _ := fun ty => Lib.run_next_end_at wr w.heap.size s k ty hit hp
      have hgo : btwGo c nv.data.toList (s.data.toList.drop 1) false 1 = none := by
        rcases hst with ⟨h1, _⟩ | ⟨_, h1⟩
        · omega
        · rw [← h1, drop_all' s k hp]; rfl
      have HR := Lib.hid (btwL_none hgo)
      clear hst hgo
      go_wp2
      go_ret3
      exact ⟨by rw [HR.out]; rfl, hbw⟩
end Go.Proofs.YtfbaknkmpilllaaGreatDoor
namespace Go.Proofs.YtfbaknkmpilllaaGreatDoor
open Go.RowKit
set_option linter.unusedSimpArgs false
set_option linter.unusedVariables false
def BareRel (s : ByteArray) (w : World) (q o z : Value) (wr : World) : Prop :=
  ∃ (k n : Nat) (bh : Bool), q = .int .i64 s.size ∧ o = .int .i64 n ∧ z = .bool bh ∧ k ≤ s.size ∧ n ≤ k ∧ wr.heap[w.heap.size]? = some (.stringIter s k) ∧ Below w.heap.size w wr ∧ bareGo (s.data.toList.drop k) n bh k = bareGo s.data.toList 0 false 0
theorem bareL_is {l : List UInt8} {i o : Nat} (h : (i, o) = bareGo l 0 false 0) : bareL l = if 0 < o then 0 else i := by
  unfold bareL; rw [← h]
set_option maxHeartbeats 4000000 in
set_option maxRecDepth 100000 in
theorem bare_any (s : ByteArray) (w : World) (hs : s.size ≤ 1099511627776) :
    Calls Tryz.prog 174 #[.string s] w fun e w' => e = .returned (.int .i64 (bareL s.data.toList)) ∧ Below w.heap.size w w' := by
  go_enter Tryz.func174, Tryz.ntmps174
  go_wp2_with fail
  go_loopw [3, 4, 5] (fun q o z wr => BareRel s w q o z wr) (fun _ _ _ wr => s.size - wr.iterPos w.heap.size)
  case atStart => exact ⟨0, 0, false, rfl, rfl, rfl, Nat.zero_le _, Nat.le_refl _, World.iter_heap w s 0, (Below.refl _ w).alloc (Nat.le_refl _) _, by simp⟩
  case round =>
    obtain ⟨k, n, bh, rfl, rfl, rfl, hk, hnk, hit, hbw, hst⟩ := hrel
    by_cases hp : k < s.size
    · have hnx : ∀ ty, (Instr.next (.pointer (some ⟨w.heap.size, 0, none⟩)) true ty).run Tryz.prog wr = _ := fun ty => Lib.run_next_any_at wr w.heap.size s k ty hit hp
      have hit2 := Lib.iterAt_heap wr w.heap.size s k (k + (Utf8.decode s k).2) hit
      have hbw2 := Lib.below_iterAt hbw (k := w.heap.size) (by omega) s (k + (Utf8.decode s k).2)
      have Hit := Lib.hid hit
      clear hit hbw
      by_cases ha : s[k].toNat < 128
      · have hd : Utf8.decode s k = (s[k].toNat, 1) := decode_ascii s k hp ha
        rw [hd] at hnx hit2 hbw2
        simp only at hnx hit2 hbw2
        clear hd
        rw [get_list s k hp] at hst
        have ch := fun w => tgHidden_any s[k].toNat w
        generalize s[k] = b at *
        by_cases hstop : tgHid b.toNat = true ∨ b.toNat = 41 ∧ n = 0 ∧ bh = false
        · rw [bareGo_stop hstop] at hst
          have HR0 := bareL_is hst
          by_cases hh : tgHid b.toNat = true
          · rw [hh] at ch
            have HC := Lib.hid ch
            by_cases hn0 : 0 < n
            · have HR := Lib.hid (show bareL s.data.toList = 0 from by rw [HR0, if_pos hn0])
              clear HR0 hst hstop hh ch
              go_wp2_with (go_at_call 189; refine (HC.out _).mono ?_; rintro e w' ⟨rfl, rfl⟩)
              go_ret
              exact ⟨by rw [HR.out]; rfl, hbw2⟩
            · have HR := Lib.hid (show bareL s.data.toList = k from by rw [HR0, if_neg hn0])
              obtain rfl : n = 0 := by omega
              clear HR0 hst hstop hh ch
              go_wp2_with (go_at_call 189; refine (HC.out _).mono ?_; rintro e w' ⟨rfl, rfl⟩)
              go_ret
              exact ⟨by rw [HR.out]; rfl, hbw2⟩
          · rcases hstop with h | ⟨h1, rfl, rfl⟩
            · exact absurd h hh
            · rw [Bool.eq_false_iff.2 hh] at ch
              have HC := Lib.hid ch
              have f1 : ((b.toNat : Int) == 41) = true := by simp; omega
              have HR := Lib.hid (show bareL s.data.toList = k from by rw [HR0]; rfl)
              clear HR0 hst hh ch h1
              go_wp2_with (go_at_call 189; refine (HC.out _).mono ?_; rintro e w' ⟨rfl, rfl⟩)
              go_ret
              exact ⟨by rw [HR.out]; rfl, hbw2⟩
        · have hh : tgHid b.toNat = false := by
            rw [← Bool.not_eq_true]; exact fun e => hstop (Or.inl e)
          rw [bareGo_on hh (fun e => hstop (Or.inr e))] at hst
          rw [hh] at ch
          have HC := Lib.hid ch
          cases bh with
          | true =>
            rw [if_pos rfl] at hst
            have HR := Lib.hid hst
            clear hst hstop hh ch
            by_cases h41 : b.toNat = 41
            · have f1 : ((b.toNat : Int) == 41) = true := by simp; omega
              by_cases hn0 : n = 0
              · subst hn0
                clear h41
                go_wp2_with (go_at_call 189; refine (HC.out _).mono ?_; rintro e w' ⟨rfl, rfl⟩)
                go_roundw
                case rel => exact ⟨k + 1, 0, false, rfl, by go_num, rfl, by omega, by omega, hit2, hbw2, HR.out⟩
                case measure => simp only [World.iterPos, hit2, Hit.out]; omega
              · have f2 : ((n : Int) == 0) = false := by simp; omega
                clear h41
                go_wp2_with (go_at_call 189; refine (HC.out _).mono ?_; rintro e w' ⟨rfl, rfl⟩)
                go_roundw
                case rel => exact ⟨k + 1, n, false, rfl, by go_num, rfl, by omega, by omega, hit2, hbw2, HR.out⟩
                case measure => simp only [World.iterPos, hit2, Hit.out]; omega
            · have f1 : ((b.toNat : Int) == 41) = false := by simp; omega
              clear h41
              go_wp2_with (go_at_call 189; refine (HC.out _).mono ?_; rintro e w' ⟨rfl, rfl⟩)
              go_roundw
              case rel => exact ⟨k + 1, n, false, rfl, by go_num, rfl, by omega, by omega, hit2, hbw2, HR.out⟩
              case measure => simp only [World.iterPos, hit2, Hit.out]; omega
          | false =>
            rw [if_neg (by simp)] at hst
            by_cases h92 : b.toNat = 92
            · rw [if_pos h92] at hst
              have HR := Lib.hid hst
              have f1 : ((b.toNat : Int) == 41) = false := by simp; omega
              have f2 : ((b.toNat : Int) == 92) = true := by simp; omega
              clear hst hstop hh ch h92
              go_wp2_with (go_at_call 189; refine (HC.out _).mono ?_; rintro e w' ⟨rfl, rfl⟩)
              go_roundw
              case rel => exact ⟨k + 1, n, true, rfl, by go_num, rfl, by omega, by omega, hit2, hbw2, HR.out⟩
              case measure => simp only [World.iterPos, hit2, Hit.out]; omega
            · rw [if_neg h92] at hst
              have f2 : ((b.toNat : Int) == 92) = false := by simp; omega
              by_cases h40 : b.toNat = 40
              · rw [if_pos h40] at hst
                have HR := Lib.hid hst
                have f1 : ((b.toNat : Int) == 41) = false := by simp; omega
                have f3 : ((b.toNat : Int) == 40) = true := by simp; omega
                clear hst hstop hh ch h92 h40
                go_wp2_with (go_at_call 189; refine (HC.out _).mono ?_; rintro e w' ⟨rfl, rfl⟩)
                go_roundw
                case rel => exact ⟨k + 1, n + 1, false, rfl, by go_num, rfl, by omega, by omega, hit2, hbw2, HR.out⟩
                case measure => simp only [World.iterPos, hit2, Hit.out]; omega
              · rw [if_neg h40] at hst
                have f3 : ((b.toNat : Int) == 40) = false := by simp; omega
                by_cases h41 : b.toNat = 41
                · rw [if_pos h41] at hst
                  have HR := Lib.hid hst
                  have f1 : ((b.toNat : Int) == 41) = true := by simp; omega
                  have hn0 : 0 < n := by
                    by_cases hz : n = 0
                    · exact absurd (Or.inr ⟨h41, hz, rfl⟩) hstop
                    · omega
                  have f4 : ((n : Int) == 0) = false := by simp; omega
                  clear hst hstop hh ch h92 h40 h41
                  go_wp2_with (go_at_call 189; refine (HC.out _).mono ?_; rintro e w' ⟨rfl, rfl⟩)
                  go_roundw
                  case rel => exact ⟨k + 1, n - 1, false, rfl, by go_num, rfl, by omega, by omega, hit2, hbw2, HR.out⟩
                  case measure => simp only [World.iterPos, hit2, Hit.out]; omega
                · rw [if_neg h41] at hst
                  have HR := Lib.hid hst
                  have f1 : ((b.toNat : Int) == 41) = false := by simp; omega
                  clear hst hstop hh ch h92 h40 h41
                  go_wp2_with (go_at_call 189; refine (HC.out _).mono ?_; rintro e w' ⟨rfl, rfl⟩)
                  go_roundw
                  case rel => exact ⟨k + 1, n, false, rfl, by go_num, rfl, by omega, by omega, hit2, hbw2, HR.out⟩
                  case measure => simp only [World.iterPos, hit2, Hit.out]; omega
      · obtain ⟨d1, d2, d3, m, hm1, hm2, hm3⟩ := rune_high s k hp (by omega)
        have hd9 := decode_max s k
        rw [hm1, bareGo_high m _ n k bh hm3 (by omega), hm2] at hst
        have HR := Lib.hid hst
        have ch := fun w => tgHidden_any (Utf8.decode s k).1 w
        rw [hidB_high (by omega)] at ch
        have HC := Lib.hid ch
        have f1 : (((Utf8.decode s k).1 : Int) == 92) = false := by simp; omega
        have f2 : (((Utf8.decode s k).1 : Int) == 40) = false := by simp; omega
        have f3 : (((Utf8.decode s k).1 : Int) == 41) = false := by simp; omega
        clear hm1 hm2 hm3 ha hst ch
        generalize (Utf8.decode s k).1 = r at *
        generalize (Utf8.decode s k).2 = d at *
        cases bh with
        | true =>
          go_wp2_with (go_at_call 189; refine (HC.out _).mono ?_; rintro e w' ⟨rfl, rfl⟩)
          go_roundw
          case rel => exact ⟨k + d, n, false, rfl, rfl, rfl, by omega, by omega, hit2, hbw2, HR.out⟩
          case measure => simp only [World.iterPos, hit2, Hit.out]; omega
        | false =>
          go_wp2_with (go_at_call 189; refine (HC.out _).mono ?_; rintro e w' ⟨rfl, rfl⟩)
          go_roundw
          case rel => exact ⟨k + d, n, false, rfl, rfl, rfl, by omega, by omega, hit2, hbw2, HR.out⟩
          case measure => simp only [World.iterPos, hit2, Hit.out]; omega
    · have hnx : ∀ ty, (Instr.next (.pointer (some ⟨w.heap.size, 0, none⟩)) true ty).run Tryz.prog wr = _ := fun ty => Lib.run_next_end_at wr w.heap.size s k ty hit hp
      obtain rfl : k = s.size := by omega
      rw [drop_all' s _ hp] at hst
      have HR := bareL_is hst
      clear hst
      by_cases hn0 : 0 < n
      · rw [if_pos hn0] at HR
        have HR2 := Lib.hid HR
        clear HR
        go_wp2
        go_ret
        exact ⟨by rw [HR2.out]; rfl, hbw⟩
      · rw [if_neg hn0] at HR
        have HR2 := Lib.hid HR
        obtain rfl : n = 0 := by omega
        clear HR
        go_wp2
        go_ret
        exact ⟨by rw [HR2.out]; rfl, hbw⟩
end Go.Proofs.YtfbaknkmpilllaaGreatDoor
namespace Go.Proofs.YtfbaknkmpilllaaGreatDoor
open Go.RowKit
set_option linter.unusedSimpArgs false
set_option linter.unusedVariables false
theorem prefix_first {s : ByteArray} {b : UInt8} (h : Lib.hasPrefix s.data.toList [b] = true) : ∃ h0 : 0 < s.size, s[0] = b := by
  have hz := hasPrefix_size h
  have h0 : 0 < s.size := hz
  refine ⟨h0, ?_⟩
  have hl := get_list s 0 h0
  rw [List.drop_zero] at hl
  rw [hl] at h
  have h2 : [b] <+: s[0] :: s.data.toList.drop (0 + 1) := List.isPrefixOf_iff_prefix.1 h
  exact (List.cons_prefix_cons.1 h2).1.symm
theorem take_str (s : ByteArray) (n : Nat) : (s.extract 0 n).data.toList = s.data.toList.take n := by
  rw [part_str, List.drop_zero]
set_option maxHeartbeats 1000000 in
theorem dest_any (s : ByteArray) (w : World) (hn : NamedIs w) (hs : s.size ≤ 1099511627776) :
    Calls Tryz.prog 152 #[.string s] w fun e w' => e = .returned (tib (destL s.data.toList)) ∧ Below w.heap.size w w' := by
  have p1 := fun w => Tryz.strings_HasPrefix s ⟨#[60]⟩ w
  rw [show (⟨#[60]⟩ : ByteArray).data.toList = [60] from rfl] at p1
  cases h1 : Lib.hasPrefix s.data.toList [60] with
  | true =>
    rw [h1] at p1
    obtain ⟨h0, hb⟩ := prefix_first h1
    have cb := between_any s 62 ⟨#[60, 10]⟩ w hn h0 (by rw [hb]; decide) (by decide) (by decide) (by decide) hs
    rw [show (⟨#[60, 10]⟩ : ByteArray).data.toList = [60, 10] from rfl, show (((62 : UInt8).toNat : Nat) : Int) = 62 from rfl] at cb
    have HR := Lib.hid (show destL s.data.toList = btwL 62 [60, 10] s.data.toList from by unfold destL; rw [if_pos h1])
    have P1 := Lib.hid p1
    clear p1 h1 hb hn
    generalize btwL 62 [60, 10] s.data.toList = x at *
    obtain ⟨X, z, k⟩ := x
    unfold tib at cb
    go_enter Tryz.func152, Tryz.ntmps152
    go_wp2_with fail
    refine (P1.out _).mono ?_
    rintro e w' ⟨rfl, rfl⟩
    go_wp2_with fail
    refine cb.mono ?_
    rintro e w1 ⟨rfl, b1⟩
    go_wp2
    go_ret3
    exact ⟨by rw [HR.out]; rfl, b1⟩
  | false =>
    rw [h1] at p1
    have c1 := bare_any s w hs
    have hle := bareL_le s.data.toList
    rw [show s.data.toList.length = s.size from by simp] at hle
    have hsl := slice_hi s (bareL s.data.toList) (bareL s.data.toList) rfl hle
    have cu := fun W hn => unescape_any (s.extract 0 (bareL s.data.toList)) W hn (by rw [ByteArray.size_extract]; omega)
    rw [take_str] at cu
    have HR := Lib.hid (show destL s.data.toList = (unL (s.data.toList.take (bareL s.data.toList)), bareL s.data.toList, decide (0 < bareL s.data.toList)) from by unfold destL; rw [if_neg (by rw [h1]; simp)])
    have P1 := Lib.hid p1
    have CU := Lib.hid cu
    have HN := Lib.hid hn
    clear p1 h1 cu hn
    generalize unL (s.data.toList.take (bareL s.data.toList)) = X at *
    generalize bareL s.data.toList = n at *
    generalize s.extract 0 n = T at *
    go_enter Tryz.func152, Tryz.ntmps152
    go_wp2_with fail
    refine (P1.out _).mono ?_
    rintro e w' ⟨rfl, rfl⟩
    go_wp2_with fail
    refine c1.mono ?_
    rintro e w1 ⟨rfl, b1⟩
    go_wp2_with fail
    refine (CU.out _ (HN.out.below b1)).mono ?_
    rintro e w2 ⟨rfl, b2⟩
    go_wp2
    go_ret3
    exact ⟨by rw [HR.out]; exact ret_sib rfl rfl (by simp), b1.then b2⟩
set_option maxHeartbeats 1000000 in
theorem title_any (s : ByteArray) (w : World) (hn : NamedIs w) (hs : s.size ≤ 1099511627776) :
    Calls Tryz.prog 154 #[.string s] w fun e w' => e = .returned (tib (titleL s.data.toList)) ∧ Below w.heap.size w w' := by
  have p1 := fun w => Tryz.strings_HasPrefix s ⟨#[34]⟩ w
  have p2 := fun w => Tryz.strings_HasPrefix s ⟨#[39]⟩ w
  have p3 := fun w => Tryz.strings_HasPrefix s ⟨#[40]⟩ w
  rw [show (⟨#[34]⟩ : ByteArray).data.toList = [34] from rfl] at p1
  rw [show (⟨#[39]⟩ : ByteArray).data.toList = [39] from rfl] at p2
  rw [show (⟨#[40]⟩ : ByteArray).data.toList = [40] from rfl] at p3
  cases h1 : Lib.hasPrefix s.data.toList [34] with
  | true =>
    rw [h1] at p1
    obtain ⟨h0, hb⟩ := prefix_first h1
    have cb := between_any s 34 ByteArray.empty w hn h0 (by rw [hb]; decide) (by decide) (by decide) (by decide) hs
    rw [show (ByteArray.empty : ByteArray).data.toList = [] from rfl, show (((34 : UInt8).toNat : Nat) : Int) = 34 from rfl] at cb
    have HR := Lib.hid (show titleL s.data.toList = btwL 34 [] s.data.toList from by unfold titleL; rw [if_pos h1])
    have P1 := Lib.hid p1
    clear p1 p2 p3 h1 hb hn
    generalize btwL 34 [] s.data.toList = x at *
    obtain ⟨X, z, k⟩ := x
    unfold tib at cb
    go_enter Tryz.func154, Tryz.ntmps154
    go_wp2_with fail
    refine (P1.out _).mono ?_
    rintro e w' ⟨rfl, rfl⟩
    go_wp2_with fail
    refine cb.mono ?_
    rintro e w1 ⟨rfl, b1⟩
    go_wp2
    go_ret3
    exact ⟨by rw [HR.out]; rfl, b1⟩
  | false =>
    rw [h1] at p1
    cases h2 : Lib.hasPrefix s.data.toList [39] with
    | true =>
      rw [h2] at p2
      obtain ⟨h0, hb⟩ := prefix_first h2
      have cb := between_any s 39 ByteArray.empty w hn h0 (by rw [hb]; decide) (by decide) (by decide) (by decide) hs
      rw [show (ByteArray.empty : ByteArray).data.toList = [] from rfl, show (((39 : UInt8).toNat : Nat) : Int) = 39 from rfl] at cb
      have HR := Lib.hid (show titleL s.data.toList = btwL 39 [] s.data.toList from by unfold titleL; rw [if_neg (by rw [h1]; simp), if_pos h2])
      have P1 := Lib.hid p1
      have P2 := Lib.hid p2
      clear p1 p2 p3 h1 h2 hb hn
      generalize btwL 39 [] s.data.toList = x at *
      obtain ⟨X, z, k⟩ := x
      unfold tib at cb
      go_enter Tryz.func154, Tryz.ntmps154
      go_wp2_with fail
      refine (P1.out _).mono ?_
      rintro e w' ⟨rfl, rfl⟩
      go_wp2_with fail
      refine (P2.out _).mono ?_
      rintro e w' ⟨rfl, rfl⟩
      go_wp2_with fail
      refine cb.mono ?_
      rintro e w1 ⟨rfl, b1⟩
      go_wp2
      go_ret3
      exact ⟨by rw [HR.out]; rfl, b1⟩
    | false =>
      rw [h2] at p2
      cases h3 : Lib.hasPrefix s.data.toList [40] with
      | true =>
        rw [h3] at p3
        obtain ⟨h0, hb⟩ := prefix_first h3
        have cb := between_any s 41 ⟨#[40]⟩ w hn h0 (by rw [hb]; decide) (by decide) (by decide) (by decide) hs
        rw [show (⟨#[40]⟩ : ByteArray).data.toList = [40] from rfl, show (((41 : UInt8).toNat : Nat) : Int) = 41 from rfl] at cb
        have HR := Lib.hid (show titleL s.data.toList = btwL 41 [40] s.data.toList from by unfold titleL; rw [if_neg (by rw [h1]; simp), if_neg (by rw [h2]; simp), if_pos h3])
        have P1 := Lib.hid p1
        have P2 := Lib.hid p2
        have P3 := Lib.hid p3
        clear p1 p2 p3 h1 h2 h3 hb hn
        generalize btwL 41 [40] s.data.toList = x at *
        obtain ⟨X, z, k⟩ := x
        unfold tib at cb
        go_enter Tryz.func154, Tryz.ntmps154
        go_wp2_with fail
        refine (P1.out _).mono ?_
        rintro e w' ⟨rfl, rfl⟩
        go_wp2_with fail
        refine (P2.out _).mono ?_
        rintro e w' ⟨rfl, rfl⟩
        go_wp2_with fail
        refine (P3.out _).mono ?_
        rintro e w' ⟨rfl, rfl⟩
        go_wp2_with fail
        refine cb.mono ?_
        rintro e w1 ⟨rfl, b1⟩
        go_wp2
        go_ret3
        exact ⟨by rw [HR.out]; rfl, b1⟩
      | false =>
        rw [h3] at p3
        have HR := Lib.hid (show titleL s.data.toList = ([], 0, false) from by unfold titleL; rw [if_neg (by rw [h1]; simp), if_neg (by rw [h2]; simp), if_neg (by rw [h3]; simp)])
        have P1 := Lib.hid p1
        have P2 := Lib.hid p2
        have P3 := Lib.hid p3
        clear p1 p2 p3 h1 h2 h3
        go_enter Tryz.func154, Tryz.ntmps154
        go_wp2_with fail
        refine (P1.out _).mono ?_
        rintro e w' ⟨rfl, rfl⟩
        go_wp2_with fail
        refine (P2.out _).mono ?_
        rintro e w' ⟨rfl, rfl⟩
        go_wp2_with fail
        refine (P3.out _).mono ?_
        rintro e w' ⟨rfl, rfl⟩
        go_wp2
        go_ret3
        exact ⟨by rw [HR.out]; rfl, Below.refl _ _⟩
end Go.Proofs.YtfbaknkmpilllaaGreatDoor

namespace Go.Proofs.YtfbaknkmpilllaaGreatDoor
open Go.RowKit
set_option linter.unusedVariables false
/-- The library's variable, whatever number it holds. -/
def MaxL (w : World) : Prop := ∃ m : Int, w.cell? ⟨1, 0, none⟩ = some (.int .i64 m)
theorem MaxL.below {w w' : World} (h : MaxL w) (hb : Below w.heap.size w w') : MaxL w' := by
  obtain ⟨m, hm⟩ := h
  exact ⟨m, (hb.cell (p := ⟨1, 0, none⟩) (World.block_lt_of_cell? _ _ hm)).trans hm⟩
theorem MaxL.lt {w : World} (h : MaxL w) : 1 < w.heap.size := by
  obtain ⟨m, hm⟩ := h
  exact World.block_lt_of_cell? _ _ hm
theorem MaxL.heap {w w' : World} (h : MaxL w) (hh : w'.heap = w.heap) : MaxL w' := by
  obtain ⟨m, hm⟩ := h
  exact ⟨m, by simpa [World.cell?, hh] using hm⟩
theorem MaxL.alloc {w : World} (h : MaxL w) (o : Obj) : MaxL (w.alloc o) := h.below ((Below.refl _ w).alloc (Nat.le_refl _) o)
theorem maxL_of {w : World} (h : w.ShapedOpen Tryz.prog) : MaxL w := Go.Proofs.cell_of_shapedOpen_int (zero := #[.int .i64 0]) (t := 3) h (of_decide_eq_true (by kernel_rfl)) (by kernel_rfl) rfl (by kernel_rfl) (by kernel_rfl) Tryz.underlying3
end Go.Proofs.YtfbaknkmpilllaaGreatDoor

namespace Go.Proofs.YtfbaknkmpilllaaGreatDoor
open Go.ChangeShapes Go.WideShapes Go.ChangeAt Go.RowKit
set_option linter.unusedVariables false
/-- What the walks ask of variables. -/
structure Elv (w : World) : Prop where
  nm : NamedIs w
  ml : MaxL w
theorem Elv.below {w w' : World} (h : Elv w) (hb : Below w.heap.size w w') : Elv w' := ⟨h.nm.below hb, h.ml.below hb⟩
end Go.Proofs.YtfbaknkmpilllaaGreatDoor
