/- Texts joined: TkAs InO InT InPu RepairPu FlkA FlkB InRn InPv InPw IoM TkM EntL Hna TkZ IoU IoA. -/
import Derived.Test.YteihmgcphbijhaaGreatDoorQAM
import Derived.Test.YteihmgcphbijhaaGreatDoorQAK
import Derived.Test.YteihmgcphbijhaaGreatDoorQAB
import Derived.Lib.MinMax
import Derived.Test.YteihmgcphbijhaaGreatDoorQAI
import Derived.LaidMore
import Derived.Lay
import Derived.SevenTiedAt
import Derived.Stop.Joined
import Derived.Lib.LaidU8
import Derived.Test.YteihmgcphbijhaaGreatDoorQAA
import Derived.HandedShaped
namespace Go.Proofs.YteihmgcphbijhaaGreatDoor
open Go.RowKit
set_option linter.unusedSimpArgs false
set_option linter.unusedVariables false
set_option maxRecDepth 100000
theorem asWord (v : Value) (W : World) : (Instr.typeAssert (.iface 60 v) 20 60 true).run Tryz.prog W = .ok (.tuple #[v, .bool true]) W := by kernel_rfl
theorem zeroWord (W : World) : (do pure (Value.tuple #[← zeroValue 60, .bool false]) : Sem Value).run Tryz.prog W = .ok (.tuple #[.string ⟨#[]⟩, .bool false]) W := by kernel_rfl
theorem noWord (u : TypeId) (h : u ≠ 60) (v : Value) (W : World) : (Instr.typeAssert (.iface u v) 20 60 true).run Tryz.prog W = .ok (.tuple #[.string ⟨#[]⟩, .bool false]) W := by
  have e : (Instr.typeAssert (.iface u v) 20 60 true).run Tryz.prog W = (if u = 60 then (pure (Value.tuple #[v, .bool true]) : Sem Value) else (do pure (Value.tuple #[← zeroValue 60, .bool false]))).run Tryz.prog W := by kernel_rfl
  rw [e, if_neg h]
  exact zeroWord W
theorem asCode (v : Value) (W : World) : (Instr.typeAssert (.iface 108 v) 20 108 true).run Tryz.prog W = .ok (.tuple #[v, .bool true]) W := by kernel_rfl
theorem zeroCode (W : World) : (do pure (Value.tuple #[← zeroValue 108, .bool false]) : Sem Value).run Tryz.prog W = .ok (.tuple #[.string ⟨#[]⟩, .bool false]) W := by kernel_rfl
theorem noCode (u : TypeId) (h : u ≠ 108) (v : Value) (W : World) : (Instr.typeAssert (.iface u v) 20 108 true).run Tryz.prog W = .ok (.tuple #[.string ⟨#[]⟩, .bool false]) W := by
  have e : (Instr.typeAssert (.iface u v) 20 108 true).run Tryz.prog W = (if u = 108 then (pure (Value.tuple #[v, .bool true]) : Sem Value) else (do pure (Value.tuple #[← zeroValue 108, .bool false]))).run Tryz.prog W := by kernel_rfl
  rw [e, if_neg h]
  exact zeroCode W
theorem asTag (v : Value) (W : World) : (Instr.typeAssert (.iface 111 v) 20 111 true).run Tryz.prog W = .ok (.tuple #[v, .bool true]) W := by kernel_rfl
theorem zeroTag (W : World) : (do pure (Value.tuple #[← zeroValue 111, .bool false]) : Sem Value).run Tryz.prog W = .ok (.tuple #[.string ⟨#[]⟩, .bool false]) W := by kernel_rfl
theorem noTag (u : TypeId) (h : u ≠ 111) (v : Value) (W : World) : (Instr.typeAssert (.iface u v) 20 111 true).run Tryz.prog W = .ok (.tuple #[.string ⟨#[]⟩, .bool false]) W := by
  have e : (Instr.typeAssert (.iface u v) 20 111 true).run Tryz.prog W = (if u = 111 then (pure (Value.tuple #[v, .bool true]) : Sem Value) else (do pure (Value.tuple #[← zeroValue 111, .bool false]))).run Tryz.prog W := by kernel_rfl
  rw [e, if_neg h]
  exact zeroTag W
theorem asAuto (v : Value) (W : World) : (Instr.typeAssert (.iface 114 v) 20 114 true).run Tryz.prog W = .ok (.tuple #[v, .bool true]) W := by kernel_rfl
theorem zeroAuto (W : World) : (do pure (Value.tuple #[← zeroValue 114, .bool false]) : Sem Value).run Tryz.prog W = .ok (.tuple #[.agg #[.string ⟨#[]⟩, .string ⟨#[]⟩], .bool false]) W := by kernel_rfl
theorem noAuto (u : TypeId) (h : u ≠ 114) (v : Value) (W : World) : (Instr.typeAssert (.iface u v) 20 114 true).run Tryz.prog W = .ok (.tuple #[.agg #[.string ⟨#[]⟩, .string ⟨#[]⟩], .bool false]) W := by
  have e : (Instr.typeAssert (.iface u v) 20 114 true).run Tryz.prog W = (if u = 114 then (pure (Value.tuple #[v, .bool true]) : Sem Value) else (do pure (Value.tuple #[← zeroValue 114, .bool false]))).run Tryz.prog W := by kernel_rfl
  rw [e, if_neg h]
  exact zeroAuto W
theorem asRun (v : Value) (W : World) : (Instr.typeAssert (.iface 69 v) 20 69 true).run Tryz.prog W = .ok (.tuple #[v, .bool true]) W := by kernel_rfl
theorem zeroRun (W : World) : (do pure (Value.tuple #[← zeroValue 69, .bool false]) : Sem Value).run Tryz.prog W = .ok (.tuple #[.agg #[.int .u8 0, .int .i64 0], .bool false]) W := by kernel_rfl
theorem noRun (u : TypeId) (h : u ≠ 69) (v : Value) (W : World) : (Instr.typeAssert (.iface u v) 20 69 true).run Tryz.prog W = .ok (.tuple #[.agg #[.int .u8 0, .int .i64 0], .bool false]) W := by
  have e : (Instr.typeAssert (.iface u v) 20 69 true).run Tryz.prog W = (if u = 69 then (pure (Value.tuple #[v, .bool true]) : Sem Value) else (do pure (Value.tuple #[← zeroValue 69, .bool false]))).run Tryz.prog W := by kernel_rfl
  rw [e, if_neg h]
  exact zeroRun W
theorem asMark (v : Value) (W : World) : (Instr.typeAssert (.iface 65 v) 20 65 true).run Tryz.prog W = .ok (.tuple #[v, .bool true]) W := by kernel_rfl
theorem zeroMark (W : World) : (do pure (Value.tuple #[← zeroValue 65, .bool false]) : Sem Value).run Tryz.prog W = .ok (.tuple #[.agg #[.string ⟨#[]⟩], .bool false]) W := by kernel_rfl
theorem noMark (u : TypeId) (h : u ≠ 65) (v : Value) (W : World) : (Instr.typeAssert (.iface u v) 20 65 true).run Tryz.prog W = .ok (.tuple #[.agg #[.string ⟨#[]⟩], .bool false]) W := by
  have e : (Instr.typeAssert (.iface u v) 20 65 true).run Tryz.prog W = (if u = 65 then (pure (Value.tuple #[v, .bool true]) : Sem Value) else (do pure (Value.tuple #[← zeroValue 65, .bool false]))).run Tryz.prog W := by kernel_rfl
  rw [e, if_neg h]
  exact zeroMark W
theorem asBreak (v : Value) (W : World) : (Instr.typeAssert (.iface 96 v) 20 96 true).run Tryz.prog W = .ok (.tuple #[v, .bool true]) W := by kernel_rfl
theorem zeroBreak (W : World) : (do pure (Value.tuple #[← zeroValue 96, .bool false]) : Sem Value).run Tryz.prog W = .ok (.tuple #[.agg #[.bool false], .bool false]) W := by kernel_rfl
theorem noBreak (u : TypeId) (h : u ≠ 96) (v : Value) (W : World) : (Instr.typeAssert (.iface u v) 20 96 true).run Tryz.prog W = .ok (.tuple #[.agg #[.bool false], .bool false]) W := by
  have e : (Instr.typeAssert (.iface u v) 20 96 true).run Tryz.prog W = (if u = 96 then (pure (Value.tuple #[v, .bool true]) : Sem Value) else (do pure (Value.tuple #[← zeroValue 96, .bool false]))).run Tryz.prog W := by kernel_rfl
  rw [e, if_neg h]
  exact zeroBreak W
theorem asAtom (v : Value) (W : World) : (Instr.typeAssert (.iface 89 v) 20 89 true).run Tryz.prog W = .ok (.tuple #[v, .bool true]) W := by kernel_rfl
theorem zeroAtom (W : World) : (do pure (Value.tuple #[← zeroValue 89, .bool false]) : Sem Value).run Tryz.prog W = .ok (.tuple #[.agg #[.int .i64 0], .bool false]) W := by kernel_rfl
theorem noAtom (u : TypeId) (h : u ≠ 89) (v : Value) (W : World) : (Instr.typeAssert (.iface u v) 20 89 true).run Tryz.prog W = .ok (.tuple #[.agg #[.int .i64 0], .bool false]) W := by
  have e : (Instr.typeAssert (.iface u v) 20 89 true).run Tryz.prog W = (if u = 89 then (pure (Value.tuple #[v, .bool true]) : Sem Value) else (do pure (Value.tuple #[← zeroValue 89, .bool false]))).run Tryz.prog W := by kernel_rfl
  rw [e, if_neg h]
  exact zeroAtom W
end Go.Proofs.YteihmgcphbijhaaGreatDoor

namespace Go.Proofs.YteihmgcphbijhaaGreatDoor
open Go.RowKit Go.Maps
set_option linter.unusedSimpArgs false
set_option linter.unusedVariables false
set_option maxRecDepth 100000
theorem atomL_le (l : List UInt8) (h : (atomL l).2 ≠ 0) : 1 ≤ (atomL l).2 ∧ (atomL l).2 ≤ l.length := by
  refine ⟨by omega, ?_⟩
  revert h
  unfold atomL
  simp only
  split
  · simp
  · next h =>
    simp only [not_or, Bool.not_eq_false] at h
    intro _
    exact hasL_lt h.2.2
theorem restF_fuel (tx : Int → List UInt8) : ∀ (f g : Nat) (l : List UInt8), l.length ≤ f → l.length ≤ g → restF tx f l = restF tx g l
  | 0, g, l, h, _ => by
    obtain rfl : l = [] := List.eq_nil_of_length_eq_zero (by omega)
    cases g <;> rfl
  | f + 1, 0, l, _, h => by
    obtain rfl : l = [] := List.eq_nil_of_length_eq_zero (by omega)
    rfl
  | f + 1, g + 1, [], _, _ => rfl
  | f + 1, g + 1, b :: l, h, h' => by
    simp only [List.length_cons] at h h'
    unfold restF
    split
    · next hb =>
      have := atomL_le (b :: l) hb.2
      rw [restF_fuel tx f g _ (by rw [List.length_drop, List.length_cons]; omega) (by rw [List.length_drop, List.length_cons]; omega)]
    · rw [restF_fuel tx f g l (by omega) (by omega)]
def atxt (tx : Int → List UInt8) : Tk → List UInt8
  | .atom k => tx k
  | _ => []
theorem restL_at (tx : Int → List UInt8) (b : UInt8) (l : List UInt8) (hb : b = 0 ∧ (atomL (b :: l)).2 ≠ 0) : restL tx (b :: l) = atxt tx (atomL (b :: l)).1 ++ restL tx ((b :: l).drop (atomL (b :: l)).2) := by
  have h1 := atomL_le (b :: l) hb.2
  unfold restL
  rw [List.length_cons, restF, if_pos hb, restF_fuel tx l.length _ _ (by rw [List.length_drop, List.length_cons]; omega) (Nat.le_refl _)]
  rfl
theorem restL_byte (tx : Int → List UInt8) (b : UInt8) (l : List UInt8) (hb : ¬ (b = 0 ∧ (atomL (b :: l)).2 ≠ 0)) : restL tx (b :: l) = b :: restL tx l := by
  unfold restL
  rw [List.length_cons, restF, if_neg hb]
/-- A token at a zero is an atom just where there is one. -/
theorem next_atom (l : List UInt8) : ((atomL (0 :: l)).2 ≠ 0 → nextL (0 :: l) = atomL (0 :: l)) ∧ ((atomL (0 :: l)).2 = 0 → ∃ w n, nextL (0 :: l) = (.word w, n)) := by
  have e : firstTk (0 :: l) = atomL (0 :: l) := by unfold firstTk; simp
  unfold nextL
  rw [e]
  exact ⟨fun h => if_neg h, fun h => by rw [if_pos h]; exact ⟨_, _, rfl⟩⟩
def RsSt (tx : Int → List UInt8) (l acc : List UInt8) (k t : Nat) : Prop :=
  (t ≤ k ∧ acc ++ segL l t k ++ restL tx (l.drop k) = restL tx l) ∨ (k < t ∧ acc ++ restL tx (l.drop t) = restL tx l)
section
variable {tx : Int → List UInt8} {l acc : List UInt8} {k t : Nat}
theorem RsSt.at (h : RsSt tx l acc k t) (ht : t ≤ k) : acc ++ segL l t k ++ restL tx (l.drop k) = restL tx l := by
  rcases h with ⟨_, h⟩ | ⟨h, _⟩
  · exact h
  · omega
theorem RsSt.skip (h : RsSt tx l acc k t) (ht : k < t) : RsSt tx l acc (k + 1) t := by
  rcases h with ⟨h, _⟩ | ⟨_, h⟩
  · omega
  · by_cases e : t = k + 1
    · subst e
      refine Or.inl ⟨Nat.le_refl _, ?_⟩
      rw [segL_nil, List.append_nil]; exact h
    · exact Or.inr ⟨by omega, h⟩
theorem RsSt.byte (h : RsSt tx l acc k t) (ht : t ≤ k) {b : UInt8} {r : List UInt8} (hr : l.drop k = b :: r) (hb : ¬ (b = 0 ∧ (atomL (b :: r)).2 ≠ 0)) : RsSt tx l acc (k + 1) t := by
  have h1 := h.at ht
  have hd : l.drop (k + 1) = r := by rw [← List.drop_drop, hr]; rfl
  refine Or.inl ⟨by omega, ?_⟩
  rw [hr, restL_byte tx b r hb] at h1
  rw [seg_more l [b] t k 1 ht (by rw [hr, hd]; rfl) rfl, hd, ← h1]
  simp
theorem RsSt.atom (h : RsSt tx l acc k t) (ht : t ≤ k) {r : List UInt8} (hr : l.drop k = 0 :: r) (hb : (atomL (0 :: r)).2 ≠ 0) : RsSt tx l (acc ++ segL l t k ++ atxt tx (atomL (0 :: r)).1) (k + 1) (k + (atomL (0 :: r)).2) := by
  have h1 := h.at ht
  have h2 := atomL_le (0 :: r) hb
  rw [hr, restL_at tx 0 r ⟨rfl, hb⟩, ← hr, List.drop_drop] at h1
  rw [← hr] at h2 ⊢
  by_cases e : (atomL (l.drop k)).2 = 1
  · rw [e] at h1 ⊢
    refine Or.inl ⟨Nat.le_refl _, ?_⟩
    rw [segL_nil, List.append_nil, ← h1]
    simp
  · refine Or.inr ⟨by omega, ?_⟩
    rw [← h1]
    simp
end
def atC (a : Atm) : List Value := [.string ⟨a.lb.toArray⟩, .string ⟨a.tx.toArray⟩]
theorem atC_length (a : Atm) : (atC a).length = 2 := rfl
def AtmsAt (w : World) (atv : Value) (As : List Atm) : Prop := ∃ A c, atv = .slice A As.length c ∧ EltsAt w atC 2 A c As
theorem AtmsAt.below {w w' : World} {atv : Value} {As : List Atm} (h : AtmsAt w atv As) (hb : Below w.heap.size w w') : AtmsAt w' atv As := by
  obtain ⟨A, c, e, h⟩ := h
  exact ⟨A, c, e, EltsAt.below h hb⟩
theorem atms_cells {w : World} {A : Option Addr} {c : Nat} {As : List Atm} (h : EltsAt w atC 2 A c As) {n : Nat} (hn : n < As.length) :
    ∃ b off, A = some ⟨b, off, none⟩ ∧ b < w.heap.size ∧ w.cell? ⟨b, off + n * 2, none⟩ = some (.string ⟨As[n].lb.toArray⟩) ∧ w.cell? ⟨b, off + n * 2 + 1, none⟩ = some (.string ⟨As[n].tx.toArray⟩) := by
  rcases h.cells with h0 | ⟨b, off, e, hb, hc⟩
  · rw [h0] at hn; simp at hn
  · exact ⟨b, off, e, hb, hc n hn 0 _ rfl, hc n hn 1 _ rfl⟩
theorem atomL_nat (l : List UInt8) : ∃ n : Nat, (atomL l).1 = .atom (n : Int) := by
  unfold atomL
  simp only
  split
  · exact ⟨0, rfl⟩
  · next h =>
    simp only [not_or, Bool.not_eq_false] at h
    have e1 : (l.take (pastL tkDigit l 1)).drop 1 = (l.drop 1).takeWhile tkDigit := by
      unfold pastL
      rw [List.drop_take, show 1 + ((l.drop 1).takeWhile tkDigit).length - 1 = ((l.drop 1).takeWhile tkDigit).length from by omega]
      exact (List.prefix_iff_eq_take.1 (List.takeWhile_prefix tkDigit)).symm
    obtain ⟨n, hn, _⟩ := atoi_digits ((l.drop 1).takeWhile tkDigit) (fun b hb => (List.all_eq_true.1 (List.all_takeWhile (p := tkDigit) (l := l.drop 1))) b hb) (fun e => h.1 (by unfold pastL; rw [e]; rfl))
    exact ⟨n, by rw [e1, hn]; rfl⟩
def txA (As : List Atm) (k : Int) : List UInt8 := if 0 ≤ k ∧ k < As.length then (As.getD k.toNat ⟨[], []⟩).tx else []
section
variable {w : World} {B pb : Nat} {s : ByteArray} {atv tbv hv iv ov : Value} {nsh : Nat} {Z : List (Itm × Value)} {O : List Opn} {As : List Atm}
set_option maxHeartbeats 4000000 in
theorem restored_any (h : RawSt w B pb s atv tbv hv iv ov nsh Z O) (ha : AtmsAt w atv As) (ht : TkW w) (code : ByteArray) (hc : code.size ≤ 10000) (hA : As.length ≤ 1000) (hAt : ∀ a ∈ As, a.tx.length ≤ 1000) :
    Calls Tryz.prog 49 #[.pointer (some ⟨pb, 0, none⟩), .string code] w fun e w' => e = .returned (.string ⟨(restL (txA As) code.data.toList).toArray⟩) ∧ Below w.heap.size w w' := by
  obtain ⟨Aa, ca, rfl, ha⟩ := ha
  have HH := Lib.hid h
  have HA := Lib.hid ha
  have HT := Lib.hid ht
  have HAT := Lib.hid hAt
  have hll : code.data.toList.length = code.size := by simp
  have HLL := Lib.hid hll
  clear h ha ht hAt hll
  go_enter Tryz.func49, Tryz.ntmps49
  go_wp2_with fail
  go_loopw [6, 7, 8, 9, 10, 11, 14] (fun tv iv v8 v9 v10 v11 i wr => ∃ (k t : Nat) (acc : List UInt8), tv = .int .i64 t ∧ i = .int .i64 k ∧ k ≤ code.size ∧ t ≤ code.size ∧ Lib.IsBuilderF 39 5 w.heap.size w.heap.size (Lib.byteCells acc) wr ∧ Below w.heap.size w wr ∧ w.heap.size < wr.heap.size ∧ acc.length ≤ 1001 * t ∧ RsSt (txA As) code.data.toList acc k t) (fun _ _ _ _ _ _ i _ => code.size - (intOf i).toNat)
  case atStart =>
    refine ⟨0, 0, [], rfl, rfl, Nat.zero_le _, Nat.zero_le _, Lib.IsBuilderF.of (Lib.fresh_isBuilder 39 5 w), (Below.refl _ w).alloc (Nat.le_refl _) _, by simp, by simp, Or.inl ⟨Nat.le_refl _, by simp [segL]⟩⟩
  case round =>
    obtain ⟨k, t, acc, rfl, rfl, hk, htz, hI, hbw, hlw, hal, hst⟩ := hrel
    have HI := Lib.hid hI
    have HBW := Lib.hid hbw
    have HST := Lib.hid hst
    clear hI hbw hst
    by_cases hp : k < code.size
    · by_cases hkt : k < t
      · have HN := Lib.hid (HST.out.skip hkt)
        go_wp2
        exact ⟨⟨k + 1, t, acc, rfl, by go_num, by omega, htz, HI.out, HBW.out, hlw, hal, HN.out⟩, by simp [intOf]; omega⟩
      · have hkt2 : t ≤ k := by omega
        have HGL := Lib.hid (get_list code k hp)
        by_cases hz : code[k] = 0
        · have hzb : ((code[k].toNat : Int) != 0) = false := by rw [hz]; rfl
          have hn := tkNext_any code k hp wr (HT.out.below HBW.out) (by omega)
          rw [HGL.out, hz] at hn
          have HGZ := Lib.hid (show code.data.toList.drop k = 0 :: code.data.toList.drop (k + 1) from by rw [HGL.out, hz])
          generalize code.data.toList.drop (k + 1) = r at *
          have hna := next_atom r
          clear hz
          by_cases h0 : (atomL (0 :: r)).2 = 0
          · obtain ⟨wd, n, hwn⟩ := hna.2 h0
            rw [hwn] at hn
            have HN := Lib.hid (HST.out.byte hkt2 HGZ.out (fun e => e.2 h0))
            unfold tkV at hn
            dsimp only at hn
            clear hna hwn h0
            go_wp2_with fail
            refine hn.mono ?_
            rintro e w2 ⟨rfl, b2⟩
            have HI2 := Lib.hid (isB_below HI.out b2)
            have HBW2 := Lib.hid (HBW.out.then b2)
            have hs2 := b2.size
            clear b2 hn
            have y := fun v W => noAtom 60 (by decide) v W
            go_wp2_with fail
            exact ⟨⟨k + 1, t, acc, rfl, by go_num, by omega, htz, HI2.out.alloc _, HBW2.out.alloc HBW2.out.size _, by simp; omega, hal, HN.out⟩, by simp [intOf]; omega⟩
          · rw [hna.1 h0] at hn
            have hna2 := atomL_le (0 :: r) h0
            have hle : (0 :: r).length = code.size - k := by rw [← HGZ.out, List.length_drop, HLL.out]
            rw [hle] at hna2
            obtain ⟨n, hnn⟩ := atomL_nat (0 :: r)
            have HN := Lib.hid (HST.out.atom hkt2 HGZ.out h0)
            rw [hnn] at hn HN
            generalize (atomL (0 :: r)).2 = m at *
            unfold tkV at hn
            dsimp only at hn
            have hsl := slice_lohi code t k t k rfl rfl hkt2 (by omega)
            have HSeg := Lib.hid (show (code.extract t k).data.toList = segL code.data.toList t k from seg_list code t k)
            have hzt : (code.extract t k).size = k - t := by rw [ByteArray.size_extract]; omega
            have y := fun v W => asAtom v W
            have HTX := Lib.hid (show atxt (txA As) (.atom (n : Int)) = if n < As.length then (As.getD n ⟨[], []⟩).tx else [] from by
              show (if 0 ≤ (n : Int) ∧ (n : Int) < As.length then (As.getD (n : Int).toNat ⟨[], []⟩).tx else []) = _
              by_cases e : n < As.length
              · rw [if_pos e, if_pos ⟨by omega, by omega⟩]; rfl
              · rw [if_neg e, if_neg (by omega)])
            clear hna h0 hnn hle
            generalize code.extract t k = T2 at *
            go_wp2_with fail
            refine hn.mono ?_
            rintro e w2 ⟨rfl, b2⟩
            have HI2 := Lib.hid ((isB_below HI.out b2).alloc (.cells #[.int .i64 n] 89))
            have hbw2 := (HBW.out.then b2).alloc (HBW.out.then b2).size (.cells #[.int .i64 n] 89)
            have HBW2 := Lib.hid hbw2
            have hs2 : w.heap.size < (w2.alloc (.cells #[.int .i64 n] 89)).heap.size := by have := (HBW.out.then b2).size; simp; omega
            have HNA := Lib.hid (heap_alloc_new w2 (.cells #[.int .i64 n] 89))
            have hlt2 : w.heap.size < w2.heap.size := Nat.lt_of_lt_of_le hlw b2.size
            clear b2 hn hbw2
            go_wp2_with fail
            refine (Tryz.Builder_WriteString_k w.heap.size w.heap.size _ T2 _ HI2.out (by rw [Lib.byteCells_length]; omega) (by omega)).mono ?_
            rintro e w3 ⟨rfl, g3, b3, k3⟩
            have hna3 := k3 w2.heap.size _ HNA.out (by intro e; injection e with e; omega) (by intro c fz e; injection e with _ e2 _; exact absurd e2 (by decide))
            have hcn : w3.cell? ⟨w2.heap.size, 0, none⟩ = some (.int .i64 n) := (cell_of_row w3 w2.heap.size 0 _ _ (0, 0) hna3).trans rfl
            have HBW3 := Lib.hid (HBW2.out.trans b3)
            have HL3 := Lib.hid (show w.heap.size < w3.heap.size from Nat.lt_of_lt_of_le hs2 b3.size)
            have G3 := Lib.hid (show Lib.IsBuilderF 39 5 w.heap.size w.heap.size (Lib.byteCells (acc ++ T2.data.toList)) w3 by rw [Lib.byteCells_append]; exact Or.inr g3)
            obtain ⟨c0, c1, c2, c3, c4, c5, c6, cf, hlt⟩ := (HH.out.below HBW3.out).bcells
            clear HNA hna3 k3 g3 b3 HI2 HI c0 c2 c3 c4 c5 c6 cf
            by_cases hnA : n < As.length
            · obtain ⟨ab, ao, rfl, hab, a0, a1⟩ := atms_cells (EltsAt.below HA.out HBW3.out) hnA
              have hgd : As.getD n ⟨[], []⟩ = As[n] := by rw [List.getD_eq_getElem?_getD, List.getElem?_eq_getElem hnA]; rfl
              have htl := HAT.out As[n] (List.getElem_mem hnA)
              have HX := Lib.hid (show atxt (txA As) (.atom (n : Int)) = As[n].tx by rw [HTX.out, if_pos hnA, hgd])
              clear a0 hgd HTX
              generalize As[n].tx = tx at *
              go_wp2_with fail
              go_quiet (fail)
              go_wp2_with fail
              have bq := below_drewN' (Below.refl w3.heap.size w3) nq
              have HBq := Lib.hid (HBW3.out.then bq)
              have HL4 := Lib.hid (Nat.lt_of_lt_of_le HL3.out bq.size)
              have G4 := Lib.hid (isB_below G3.out bq)
              have hq0 : (w3.drewN nq).cell? ⟨w2.heap.size, 0, none⟩ = some (.int .i64 n) := hcn
              have hq1 : (w3.drewN nq).cell? ⟨pb, 1, none⟩ = some (.slice (some ⟨ab, ao, none⟩) As.length ca) := c1
              have hq2 : (w3.drewN nq).cell? ⟨ab, ao + n * 2 + 1, none⟩ = some (.string ⟨tx.toArray⟩) := a1
              clear hcn c1 a1 bq G3
              generalize w3.drewN nq = w4 at *
              go_still_tail 9, (by kernel_rfl)
              change wpList _ _ _ _ _ w4.drew
              have bd := (Below.refl w4.heap.size w4).drew
              have HB5 := Lib.hid (HBq.out.then bd)
              have HL5 := Lib.hid (Nat.lt_of_lt_of_le HL4.out bd.size)
              have G5 := Lib.hid (isB_below G4.out bd)
              clear hq0 hq1 hq2 bd HBq G4
              generalize w4.drew = w5 at *
              go_wp2_with fail
              refine (Tryz.Builder_WriteString_k w.heap.size w.heap.size _ ⟨tx.toArray⟩ _ G5.out (by rw [Lib.byteCells_length, List.length_append, str_size]; simp; omega) HB5.out.size).mono ?_
              rintro e w6 ⟨rfl, g6, b6, k6⟩
              have HB6 := Lib.hid (HB5.out.trans b6)
              have G6 := Lib.hid (show Lib.IsBuilderF 39 5 w.heap.size w.heap.size (Lib.byteCells (acc ++ T2.data.toList ++ tx)) w6 by rw [Lib.byteCells_append]; exact Or.inr g6)
              have HL6 := Lib.hid (Nat.lt_of_lt_of_le HL5.out b6.size)
              clear g6 b6 k6 G5
              go_wp2
              exact ⟨⟨k + 1, k + m, acc ++ T2.data.toList ++ tx, by go_num, by go_num, by omega, by omega, G6.out, HB6.out, HL6.out, by simp only [List.length_append]; simp; omega, by have := HN.out; rw [HX.out, ← HSeg.out] at this; exact this⟩, by simp [intOf]; omega⟩
            · have HX := Lib.hid (show atxt (txA As) (.atom (n : Int)) = [] by rw [HTX.out, if_neg hnA])
              clear HTX
              go_wp2_with fail
              go_quiet (fail)
              have bq := below_drewN' (Below.refl w3.heap.size w3) nq
              have HBq := Lib.hid (HBW3.out.then bq)
              have HL4 := Lib.hid (Nat.lt_of_lt_of_le HL3.out bq.size)
              have G4 := Lib.hid (isB_below G3.out bq)
              clear hcn c1 bq G3
              generalize w3.drewN nq = w4 at *
              go_wp2
              exact ⟨⟨k + 1, k + m, acc ++ T2.data.toList, by go_num, by go_num, by omega, by omega, G4.out, HBq.out, HL4.out, by simp only [List.length_append]; simp; omega, by have := HN.out; rw [HX.out, ← HSeg.out, List.append_nil] at this; exact this⟩, by simp [intOf]; omega⟩
        · have HN := Lib.hid (HST.out.byte hkt2 HGL.out (fun e => hz e.1))
          have hzb : ((code[k].toNat : Int) != 0) = true := by
            simp
            intro e
            exact hz (UInt8.toNat_inj.1 (by show code[k].toNat = 0; omega))
          clear hz
          go_wp2
          exact ⟨⟨k + 1, t, acc, rfl, by go_num, by omega, htz, HI.out, HBW.out, hlw, hal, HN.out⟩, by simp [intOf]; omega⟩
    · obtain rfl : k = code.size := by omega
      have HE := Lib.hid (show acc ++ (code.extract t code.size).data.toList = restL (txA As) code.data.toList from by
        have := HST.out.at htz
        rw [drop_all' code _ hp, show restL (txA As) [] = [] from rfl, List.append_nil] at this
        rw [seg_list, this])
      have hsl := slice_lo code t t rfl htz
      have hz1 : (code.extract t code.size).size ≤ 10000 := by rw [ByteArray.size_extract]; omega
      generalize code.extract t code.size = T at *
      go_wp2_with fail
      refine (Tryz.Builder_WriteString_k w.heap.size w.heap.size _ T _ HI.out (by rw [Lib.byteCells_length]; omega) HBW.out.size).mono ?_
      rintro e w2 ⟨rfl, g2, b2, k2⟩
      have hs4 := b2.size
      have hs5 := HBW.out.size
      have G2 : Lib.IsBuilderF 39 5 w.heap.size w.heap.size (Lib.byteCells (acc ++ T.data.toList)) w2 := by rw [Lib.byteCells_append]; exact Or.inr g2
      go_wp2_with fail
      refine (Tryz.Builder_String_any_k w.heap.size w.heap.size _ _ G2 (by omega)).mono ?_
      rintro e w3 ⟨rfl, _, b3, _⟩
      go_wp2
      go_ret
      exact ⟨by rw [← HE.out]; rfl, HBW.out.trans (b2.trans b3)⟩
end
end Go.Proofs.YteihmgcphbijhaaGreatDoor

namespace Go.Proofs.YteihmgcphbijhaaGreatDoor
open Go.RowKit Go.Maps
set_option linter.unusedSimpArgs false
set_option linter.unusedVariables false
set_option maxRecDepth 100000
theorem alloc_at {w1 : World} {o : Obj} {g : Nat} (hg : g = w1.heap.size) : (w1.alloc o).heap[g]? = some o := by subst hg; exact heap_alloc_new _ _
section
variable {w : World} {B pb : Nat} {s : ByteArray} {atv tbv hv iv ov : Value} {nsh : Nat} {Z : List (Itm × Value)} {O : List Opn} {D : List Dfn} {As : List Atm}
set_option maxHeartbeats 4000000 in
theorem nodes_word (x : List UInt8) : Calls Tryz.prog 25 #[.pointer (some ⟨pb, 0, none⟩), tkV (.word x)] w fun e w' => (∃ v, e = .returned v ∧ NdAt w' v [wordsI 0 x]) ∧ Below w.heap.size w w' := by
  unfold tkV
  have cw := fun W => inWords_any ⟨x.toArray⟩ W
  have y := fun v W => asWord v W
  go_enter Tryz.func25, Tryz.ntmps25
  go_wp2_with fail
  refine (cw _).mono ?_
  rintro e w2 ⟨⟨v, rfl, hv⟩, b2⟩
  have HV := Lib.hid hv
  clear cw hv
  go_wp2
  go_ret
  exact ⟨⟨_, rfl, HV.out⟩, b2⟩
set_option maxHeartbeats 4000000 in
theorem nodes_tag (x : List UInt8) : Calls Tryz.prog 25 #[.pointer (some ⟨pb, 0, none⟩), tkV (.tag x)] w fun e w' => (∃ v, e = .returned v ∧ NdAt w' v [⟨9, 0, x, [], []⟩]) ∧ Below w.heap.size w w' := by
  unfold tkV
  have y1 := fun v W => noWord 111 (by decide) v W
  have y2 := fun v W => noCode 111 (by decide) v W
  have y3 := fun v W => asTag v W
  go_enter Tryz.func25, Tryz.ntmps25
  go_wp2
  go_ret
  exact ⟨⟨_, rfl, NdAt.box (x := ⟨9, 0, x, [], []⟩) (heap_alloc_new _ _)⟩, (Below.refl _ _).alloc (Nat.le_refl _) _⟩
set_option maxHeartbeats 4000000 in
theorem nodes_auto (u x : List UInt8) : Calls Tryz.prog 25 #[.pointer (some ⟨pb, 0, none⟩), tkV (.auto u x)] w fun e w' => (∃ v, e = .returned v ∧ NdAt w' v [⟨5, 0, [], u, []⟩, wordsI 1 x]) ∧ Below w.heap.size w w' := by
  unfold tkV
  have y1 := fun v W => noWord 114 (by decide) v W
  have y2 := fun v W => noCode 114 (by decide) v W
  have y3 := fun v W => noTag 114 (by decide) v W
  have y4 := fun v W => asAuto v W
  have cw := fun W => inWords_any ⟨x.toArray⟩ W
  have ch := fun v W h => holding_any ⟨5, 0, [], u, []⟩ v [wordsI 0 x] W h (by simp)
  unfold ilV at ch
  dsimp only at ch
  obtain ⟨x0, x1⟩ := show (w.alloc (.cells #[.string ⟨u.toArray⟩, .string ⟨x.toArray⟩] 114)).cell? ⟨w.heap.size, 0, none⟩ = some (.string ⟨u.toArray⟩) ∧ (w.alloc (.cells #[.string ⟨u.toArray⟩, .string ⟨x.toArray⟩] 114)).cell? ⟨w.heap.size, 1, none⟩ = some (.string ⟨x.toArray⟩) from ⟨(cell_of_row _ _ 0 _ _ (0, 0) (heap_alloc_new w _)).trans rfl, (cell_of_row _ _ 1 _ _ (0, 0) (heap_alloc_new w _)).trans rfl⟩
  go_enter Tryz.func25, Tryz.ntmps25
  go_wp2_with fail
  have bA := ((Below.refl w.heap.size w).alloc (Nat.le_refl _) (.cells #[.string ⟨u.toArray⟩, .string ⟨x.toArray⟩] 114))
  have HBA := Lib.hid (bA.drew)
  have hlt : w.heap.size < (w.alloc (.cells #[.string ⟨u.toArray⟩, .string ⟨x.toArray⟩] 114)).drew.heap.size := by show _ < (w.alloc _).heap.size; simp
  refine wp_region_N (fun W => W.cell? ⟨w.heap.size, 0, none⟩ = some (.string ⟨u.toArray⟩) ∧ W.cell? ⟨w.heap.size, 1, none⟩ = some (.string ⟨x.toArray⟩)) (fun n => decide (n < 6)) (by kernel_rfl) ?_
  have HS := Lib.hid (show (w.alloc (.cells #[.string ⟨u.toArray⟩, .string ⟨x.toArray⟩] 114)).drew.cell? ⟨w.heap.size, 0, none⟩ = some (.string ⟨u.toArray⟩) ∧ (w.alloc (.cells #[.string ⟨u.toArray⟩, .string ⟨x.toArray⟩] 114)).drew.cell? ⟨w.heap.size, 1, none⟩ = some (.string ⟨x.toArray⟩) from ⟨x0, x1⟩)
  have HLT := Lib.hid hlt
  clear bA x0 x1 hlt
  generalize (w.alloc (.cells #[.string ⟨u.toArray⟩, .string ⟨x.toArray⟩] 114)).drew = wd at *
  refine wpAnyN_take_at 0 54 (v := ?_) rfl rfl (by kernel_rfl) (by kernel_rfl) (by kernel_rfl) (by kernel_rfl) (by kernel_rfl) (fun _ _ _ h => h) (by rfl) ?_ HS.out ?_
  rotate_left
  · intro W hSw; (try dsimp only at hSw); obtain ⟨q0, q1⟩ := hSw; go_simp; (try with_reducible rfl)
  simp only [Act.put, List.setIfInBounds_toArray, List.set_cons_zero, List.set_cons_succ]
  refine wpAnyN_take_at 1 55 (v := ?_) rfl rfl (by kernel_rfl) (by kernel_rfl) (by kernel_rfl) (by kernel_rfl) (by kernel_rfl) (fun _ _ _ h => h) (by rfl) ?_ HS.out ?_
  rotate_left
  · intro W hSw; (try dsimp only at hSw); obtain ⟨q0, q1⟩ := hSw; go_simp; (try with_reducible rfl)
  simp only [Act.put, List.setIfInBounds_toArray, List.set_cons_zero, List.set_cons_succ]
  refine wpAnyN_take_at 2 56 (v := ?_) rfl rfl (by kernel_rfl) (by kernel_rfl) (by kernel_rfl) (by kernel_rfl) (by kernel_rfl) (fun _ _ _ h => h) (by rfl) ?_ HS.out ?_
  rotate_left
  · intro W hSw; (try dsimp only at hSw); obtain ⟨q0, q1⟩ := hSw; go_simp; (try with_reducible rfl)
  simp only [Act.put, List.setIfInBounds_toArray, List.set_cons_zero, List.set_cons_succ]
  refine wpAnyN_take_at 3 57 (v := ?_) rfl rfl (by kernel_rfl) (by kernel_rfl) (by kernel_rfl) (by kernel_rfl) (by kernel_rfl) (fun _ _ _ h => h) (by rfl) ?_ HS.out ?_
  rotate_left
  · intro W hSw; (try dsimp only at hSw); obtain ⟨q0, q1⟩ := hSw; go_simp; (try with_reducible rfl)
  simp only [Act.put, List.setIfInBounds_toArray, List.set_cons_zero, List.set_cons_succ]
  refine wpAnyN_take_at 4 58 (v := ?_) rfl rfl (by kernel_rfl) (by kernel_rfl) (by kernel_rfl) (by kernel_rfl) (by kernel_rfl) (fun _ _ _ h => h) (by rfl) ?_ HS.out ?_
  rotate_left
  · intro W hSw; (try dsimp only at hSw); obtain ⟨q0, q1⟩ := hSw; go_simp; (try with_reducible rfl)
  simp only [Act.put, List.setIfInBounds_toArray, List.set_cons_zero, List.set_cons_succ]
  refine wpAnyN_one (i := 5) rfl (by kernel_rfl) (fun K hK => ?_)
  go_simp
  go_at_call 44
  refine (cw _).mono ?_
  rintro e w3 ⟨⟨v3, rfl, hv3⟩, b3⟩
  refine hK _ _ (fun _ => ⟨(b3.cell (p := ⟨w.heap.size, 0, none⟩) HLT.out).trans HS.out.1, (b3.cell (p := ⟨w.heap.size, 1, none⟩) HLT.out).trans HS.out.2⟩) ?_
  clear hK
  (try simp only [Act.put, List.setIfInBounds_toArray, List.set_cons_zero, List.set_cons_succ])
  refine wpAnyN_rest 6 [_, _] rfl (by kernel_rfl) (by rfl) ?_
  have ch3 := ch v3 w3 hv3
  have HB3 := Lib.hid (HBA.out.then b3)
  clear ch cw b3 hv3
  go_wp2_with fail
  refine ch3.mono ?_
  rintro e w4 ⟨⟨v4, rfl, hv4⟩, b4⟩
  have HV4 := Lib.hid (show NdAt w4 v4 [⟨5, 0, [], u, []⟩, wordsI 1 x] from hv4)
  have HB4 := Lib.hid (HB3.out.then b4)
  clear ch3 hv4 b4
  go_wp2
  go_ret
  exact ⟨⟨_, rfl, HV4.out⟩, HB4.out⟩
set_option maxHeartbeats 4000000 in
theorem nodes_brk (h : Bool) : Calls Tryz.prog 25 #[.pointer (some ⟨pb, 0, none⟩), tkV (.brk h)] w fun e w' => (∃ v, e = .returned v ∧ NdAt w' v [⟨if h then 8 else 7, 0, [], [], []⟩]) ∧ Below w.heap.size w w' := by
  unfold tkV
  have y1 := fun v W => noWord 96 (by decide) v W
  have y2 := fun v W => noCode 96 (by decide) v W
  have y3 := fun v W => noTag 96 (by decide) v W
  have y4 := fun v W => noAuto 96 (by decide) v W
  have y5 := fun v W => asBreak v W
  cases h
  · go_enter Tryz.func25, Tryz.ntmps25
    go_wp2
    go_ret
    exact ⟨⟨_, rfl, NdAt.box (x := ⟨7, 0, [], [], []⟩) (alloc_at (by simp))⟩, ((((Below.refl _ _).alloc (Nat.le_refl _) _).alloc (by simp) _).alloc (by simp; omega) _).alloc (by simp; omega) _⟩
  · go_enter Tryz.func25, Tryz.ntmps25
    go_wp2
    go_ret
    exact ⟨⟨_, rfl, NdAt.box (x := ⟨8, 0, [], [], []⟩) (alloc_at (by simp))⟩, (((Below.refl _ _).alloc (Nat.le_refl _) _).alloc (by simp) _).alloc (by simp; omega) _⟩
set_option maxHeartbeats 4000000 in
theorem nodes_code (h : RawSt w B pb s atv tbv hv iv ov nsh Z O) (ha : AtmsAt w atv As) (ht : TkW w) (x : List UInt8) (hx : x.length ≤ 10000) (hA : As.length ≤ 1000) (hAt : ∀ a ∈ As, a.tx.length ≤ 1000) :
    Calls Tryz.prog 25 #[.pointer (some ⟨pb, 0, none⟩), tkV (.code x)] w fun e w' => (∃ v, e = .returned v ∧ NdAt w' v [⟨2, 0, restL (txA As) x, [], []⟩]) ∧ Below w.heap.size w w' := by
  unfold tkV
  have y1 := fun v W => noWord 108 (by decide) v W
  have y2 := fun v W => asCode v W
  have cr := restored_any h ha ht ⟨x.toArray⟩ (by rw [str_size]; exact hx) hA hAt
  rw [show (⟨x.toArray⟩ : ByteArray).data.toList = x from rfl] at cr
  clear h ha ht
  generalize restL (txA As) x = y at *
  go_enter Tryz.func25, Tryz.ntmps25
  go_wp2_with fail
  refine cr.mono ?_
  rintro e w2 ⟨rfl, b2⟩
  have HB2 := Lib.hid b2
  clear cr b2
  go_wp2
  go_ret
  exact ⟨⟨_, rfl, NdAt.box (x := ⟨2, 0, y, [], []⟩) (heap_alloc_new _ _)⟩, HB2.out.alloc HB2.out.size _⟩
set_option maxHeartbeats 4000000 in
/-- An atom that is not there. -/
theorem nodes_lost (h : RawSt w B pb s atv tbv hv iv ov nsh Z O) (ha : AtmsAt w atv As) (n : Nat) (hn : ¬ n < As.length) :
    Calls Tryz.prog 25 #[.pointer (some ⟨pb, 0, none⟩), tkV (.atom (n : Int))] w fun e w' => (∃ v, e = .returned v ∧ NdAt w' v []) ∧ Below w.heap.size w w' := by
  unfold tkV
  obtain ⟨Aa, ca, rfl, ha⟩ := ha
  have y1 := fun v W => noWord 89 (by decide) v W
  have y2 := fun v W => noCode 89 (by decide) v W
  have y3 := fun v W => noTag 89 (by decide) v W
  have y4 := fun v W => noAuto 89 (by decide) v W
  have y5 := fun v W => noBreak 89 (by decide) v W
  have y6 := fun v W => asAtom v W
  have HH := Lib.hid h
  clear h ha
  go_enter Tryz.func25, Tryz.ntmps25
  go_wp2_with fail
  have hb := (((((Below.refl w.heap.size w).alloc (Nat.le_refl _) (.cells #[.string ⟨#[]⟩, .string ⟨#[]⟩] 114)).alloc (by simp) (.cells #[.bool false] 96)).alloc (by simp; omega) (.cells #[.bool false] 96)).alloc (by simp; omega) (.cells #[.int .i64 n] 89))
  have hbox := alloc_at (w1 := (((w.alloc (.cells #[.string ⟨#[]⟩, .string ⟨#[]⟩] 114)).alloc (.cells #[.bool false] 96)).alloc (.cells #[.bool false] 96))) (o := .cells #[.int .i64 n] 89) (g := w.heap.size + 1 + 1 + 1) (by simp)
  generalize ((((w.alloc (.cells #[.string ⟨#[]⟩, .string ⟨#[]⟩] 114)).alloc (.cells #[.bool false] 96)).alloc (.cells #[.bool false] 96)).alloc (.cells #[.int .i64 n] 89)) = w4 at *
  have hx : w4.cell? ⟨w.heap.size + 1 + 1 + 1, 0, none⟩ = some (.int .i64 n) := (cell_of_row w4 _ 0 _ _ (0, 0) hbox).trans rfl
  obtain ⟨c0, c1, c2, c3, c4, c5, c6, cf, hlt⟩ := (HH.out.below hb).bcells
  have HB := Lib.hid hb
  clear c0 c2 c3 c4 c5 c6 cf hlt hb hbox
  go_quiet (fail)
  go_wp2
  go_ret
  exact ⟨⟨_, rfl, NdAt.nil _⟩, below_drewN' HB.out nq⟩
end
end Go.Proofs.YteihmgcphbijhaaGreatDoor

namespace Go.Proofs.YteihmgcphbijhaaGreatDoor
open Go.RowKit Go.Maps
set_option linter.unusedSimpArgs false
set_option linter.unusedVariables false
set_option maxRecDepth 100000
section
variable {w0 w : World} {pb : Nat} {s : ByteArray} {atv tbv hv iv ov : Value} {nsh : Nat} {Z : List (Itm × Value)} {O : List Opn} {D : List Dfn} {al : List Nat} {E : List Ent} {C frm tow : Nat}
set_option maxHeartbeats 4000000 in
/-- A token that is no row and no bracket. -/
theorem put_rest (h : RawSt w w0.heap.size pb s atv tbv hv iv ov nsh Z O) (hr : Rep E Z O nsh) (hZ : Z.length ≤ 1000) {u : TypeId} {x : Value} (h1 : u ≠ 65) (h2 : u ≠ 69) (nd : List Iln)
    (hn : ∀ W, Below w.heap.size w W → Calls Tryz.prog 25 #[.pointer (some ⟨pb, 0, none⟩), .iface u x] W fun e w' => (∃ v, e = .returned v ∧ NdAt w' v nd) ∧ Below W.heap.size W w') :
    Calls Tryz.prog 14 #[.pointer (some ⟨pb, 0, none⟩), .iface u x, .int .i64 frm, .int .i64 tow] w fun e w' => e = .returned (.int .i64 tow) ∧ Done w0 w pb s atv tbv hv (.it (ndI nd) :: E) w' := by
  have y1 := fun v W => noMark u h1 v W
  have y2 := fun v W => noRun u h2 v W
  have HH := Lib.hid h
  have HR := Lib.hid hr
  have HN := Lib.hid hn
  clear h hr hn h1 h2
  go_enter Tryz.func14, Tryz.ntmps14
  go_wp2_with fail
  have hb := ((Below.refl w.heap.size w).alloc (Nat.le_refl _) (.cells #[.string ⟨#[]⟩] 65)).alloc (by simp) (.cells #[.int .u8 0, .int .i64 0] 69)
  refine (HN.out _ hb).mono ?_
  rintro e w3 ⟨⟨v3, rfl, hv3⟩, b3⟩
  have hbb := hb.then b3
  have ca := inAdd_any (HH.out.below hbb) v3 nd hv3 (by omega)
  have HBB := Lib.hid hbb
  clear hb b3 hbb hv3
  go_wp2_with fail
  refine ca.mono ?_
  rintro e w4 ⟨rfl, ⟨iv4, h4⟩, k4⟩
  have HD := Lib.hid (show Done w0 w pb s atv tbv hv (.it (ndI nd) :: E) w4 from ⟨⟨iv4, _, _, _, _, h4, HR.out.it _ _⟩, (KI.of HBB.out HH.out.baseLe).trans k4⟩)
  clear ca h4 k4
  go_wp2
  go_ret
  exact ⟨rfl, HD.out⟩
set_option maxHeartbeats 4000000 in
/-- A bracket. -/
theorem put_mark (t : List UInt8) {Q : Int → World → Prop} (hm : ∀ W, Below w.heap.size w W → Calls Tryz.prog 20 #[.pointer (some ⟨pb, 0, none⟩), .string ⟨t.toArray⟩, .int .i64 frm, .int .i64 tow] W fun e w' => ∃ i : Int, e = .returned (.int .i64 i) ∧ Q i w') :
    Calls Tryz.prog 14 #[.pointer (some ⟨pb, 0, none⟩), tkV (.mark t), .int .i64 frm, .int .i64 tow] w fun e w' => ∃ i : Int, e = .returned (.int .i64 i) ∧ Q i w' := by
  unfold tkV
  have y1 := fun v W => asMark v W
  have HM := Lib.hid hm
  clear hm
  go_enter Tryz.func14, Tryz.ntmps14
  go_wp2_with fail
  refine (HM.out _ ((Below.refl w.heap.size w).alloc (Nat.le_refl _) _)).mono ?_
  rintro e w2 ⟨i, rfl, hq⟩
  have HQ := Lib.hid hq
  clear hq
  go_wp2
  go_ret
  exact ⟨i, rfl, HQ.out⟩
set_option maxHeartbeats 4000000 in
/-- The sign that ends. -/
theorem mark_shut {Q : Int → World → Prop} (hc : Calls Tryz.prog 43 #[.pointer (some ⟨pb, 0, none⟩), .int .i64 frm, .int .i64 tow] w fun e w' => ∃ i : Int, e = .returned (.int .i64 i) ∧ Q i w') :
    Calls Tryz.prog 20 #[.pointer (some ⟨pb, 0, none⟩), .string ⟨#[93]⟩, .int .i64 frm, .int .i64 tow] w fun e w' => ∃ i : Int, e = .returned (.int .i64 i) ∧ Q i w' := by
  go_enter Tryz.func20, Tryz.ntmps20
  go_wp2_with fail
  refine hc.mono ?_
  rintro e w2 ⟨i, rfl, hq⟩
  have HQ := Lib.hid hq
  clear hq hc
  go_wp2
  go_ret
  exact ⟨i, rfl, HQ.out⟩
/-- A bracket, whichever it is: what stepI says. -/
theorem mark_any (V : Env) (h : RawSt w w0.heap.size pb s atv tbv hv iv ov nsh Z O) (hc : Ctx w0 w tbv hv D al s) (hr : Rep E Z O nsh) (k : PotSt C frm E) (hC : C * frm ≤ 1000000) (hfs : frm ≤ s.size) (hts : tow ≤ s.size) (t : List UInt8) (ht : t = [91] ∨ t = [33, 91] ∨ t = [93]) :
    Calls Tryz.prog 20 #[.pointer (some ⟨pb, 0, none⟩), .string ⟨t.toArray⟩, .int .i64 frm, .int .i64 tow] w fun e w' => ∃ i : Int, e = .returned (.int .i64 i) ∧ i = (tow : Int) + (stepI V D s.data.toList frm tow (.mark t) E).2 ∧ Done w0 w pb s atv tbv hv (stepI V D s.data.toList frm tow (.mark t) E).1 w' := by
  have hf : frm ≤ 1000 := Nat.le_trans hfs hc.sl
  have hz := zok_of hr k hf hC
  have hO : O.length ≤ 1000 := by have := hr.opLe; have := k.len; omega
  rcases ht with rfl | rfl | rfl
  · refine (mark_open false h hr hz.len hO).mono ?_
    rintro e w' ⟨rfl, hd⟩
    exact ⟨_, rfl, by simp [stepI], hd⟩
  · refine (mark_open true h hr hz.len hO).mono ?_
    rintro e w' ⟨rfl, hd⟩
    exact ⟨_, rfl, by simp [stepI], hd⟩
  · refine mark_shut (Q := fun i w' => i = (tow : Int) + (stepI V D s.data.toList frm tow (.mark [93]) E).2 ∧ Done w0 w pb s atv tbv hv (stepI V D s.data.toList frm tow (.mark [93]) E).1 w') ?_
    refine (inClose_any h hc hr k hC hfs hts).mono ?_
    rintro e w' ⟨rfl, hd⟩
    exact ⟨_, rfl, rfl, hd⟩
end
end Go.Proofs.YteihmgcphbijhaaGreatDoor

namespace Go.Proofs.YteihmgcphbijhaaGreatDoor
open Go.RowKit
theorem punct_any (r : Int) (w : World) :
    Calls Tryz.prog 48 #[.int .i32 r] w fun e w' => e = .returned (.bool (punctB r)) ∧ w = w' := by
  by_cases h : inB r 0 127 = true
  · have h' := h
    unfold inB at h'
    simp at h'
    obtain ⟨hl, hu⟩ := h'
    go_enter Tryz.func48, Tryz.ntmps48
    go_wp2_with (first | (go_at_call 86; refine (within32 _ _ _ _).mono ?_; rintro e w' ⟨rfl, rfl⟩) | (go_at_call 67; refine (ascii_any _ _).mono ?_; rintro e w' ⟨rfl, rfl⟩))
    go_ret
    exact ⟨ret_bool (by simp [punctB, *]), rfl⟩
  · go_enter Tryz.func48, Tryz.ntmps48
    go_wp2_with (go_at_call 86; refine (within32 _ _ _ _).mono ?_; rintro e w' ⟨rfl, rfl⟩)
    all_goals (go_ret; exact ⟨ret_bool (by simp [punctB, *]), rfl⟩)
end Go.Proofs.YteihmgcphbijhaaGreatDoor

namespace Go.Proofs.YteihmgcphbijhaaGreatDoor
open Go.RowKit
theorem flkLeft_any (b a : Int) (w : World) :
    Calls Tryz.prog 46 #[.int .i32 b, .int .i32 a] w fun e w' => e = .returned (.bool (leftB b a)) ∧ w = w' := by
  go_enter Tryz.func46, Tryz.ntmps46
  go_wp2_with (first | (go_at_call 85; refine (space_any _ _).mono ?_; rintro e w' ⟨rfl, rfl⟩) | (go_at_call 48; refine (punct_any _ _).mono ?_; rintro e w' ⟨rfl, rfl⟩))
  all_goals (go_ret; exact ⟨ret_bool (by simp [leftB, *]), rfl⟩)
theorem flkRight_any (b a : Int) (w : World) :
    Calls Tryz.prog 47 #[.int .i32 b, .int .i32 a] w fun e w' => e = .returned (.bool (leftB a b)) ∧ w = w' := by
  go_enter Tryz.func47, Tryz.ntmps47
  go_wp2_with (go_at_call 46; refine (flkLeft_any _ _ _).mono ?_; rintro e w' ⟨rfl, rfl⟩)
  all_goals (go_ret; exact ⟨rfl, rfl⟩)
theorem flkOpens_any (c b a : Int) (w : World) :
    Calls Tryz.prog 22 #[.int .u8 c, .int .i32 b, .int .i32 a] w fun e w' => e = .returned (.bool (opensB c b a)) ∧ w = w' := by
  go_enter Tryz.func22, Tryz.ntmps22
  go_wp2_with (first | (go_at_call 46; refine (flkLeft_any _ _ _).mono ?_; rintro e w' ⟨rfl, rfl⟩) | (go_at_call 47; refine (flkRight_any _ _ _).mono ?_; rintro e w' ⟨rfl, rfl⟩) | (go_at_call 48; refine (punct_any _ _).mono ?_; rintro e w' ⟨rfl, rfl⟩))
  all_goals (go_ret; exact ⟨ret_bool (by simp_all [opensB]), rfl⟩)
theorem flkCloses_any (c b a : Int) (w : World) :
    Calls Tryz.prog 23 #[.int .u8 c, .int .i32 b, .int .i32 a] w fun e w' => e = .returned (.bool (opensB c a b)) ∧ w = w' := by
  go_enter Tryz.func23, Tryz.ntmps23
  go_wp2_with (go_at_call 22; refine (flkOpens_any _ _ _ _).mono ?_; rintro e w' ⟨rfl, rfl⟩)
  all_goals (go_ret; exact ⟨rfl, rfl⟩)
end Go.Proofs.YteihmgcphbijhaaGreatDoor

namespace Go.Proofs.YteihmgcphbijhaaGreatDoor
open Go.RowKit
theorem flkShown_any (r : Int) (w : World) :
    Calls Tryz.prog 84 #[.int .i32 r] w fun e w' => e = .returned (.int .i32 (shownI r)) ∧ w = w' := by
  go_enter Tryz.func84, Tryz.ntmps84
  go_wp2
  all_goals (go_ret; exact ⟨ret_i32 (by simp_all [shownI]), rfl⟩)
def BsRel (z : ByteArray) (w : World) (kk : Nat) (e : Bool) (out : Int × Int) (last : Value) (wr : World) : Prop :=
  ∃ (pos fuel : Nat) (lst : Int), last = .int .i32 lst ∧ wr.heap[w.heap.size]? = some (.stringIter z pos) ∧ Below w.heap.size w wr ∧ bsFrom z kk e fuel pos lst = out ∧ z.size ≤ pos + fuel
set_option maxHeartbeats 4000000 in
set_option maxRecDepth 1000000 in
theorem beside_any (s : ByteArray) (a : Int) (w : World) (hs : s.size ≤ 17592186044416) :
    Calls Tryz.prog 45 #[.string s, .int .i64 a] w fun e w' => e = .returned (.tuple #[.int .i32 (bsB s a).1, .int .i32 (bsB s a).2]) ∧ Below w.heap.size w w' := by
  by_cases h0 : a < 0
  · rw [bsB_out s a (Or.inl h0)]
    go_enter Tryz.func45, Tryz.ntmps45
    go_wp2
    go_ret2
    exact ⟨rfl, Below.refl _ w⟩
  by_cases h1 : (s.size : Int) < a
  · rw [bsB_out s a (Or.inr h1)]
    go_enter Tryz.func45, Tryz.ntmps45
    go_wp2
    go_ret2
    exact ⟨rfl, Below.refl _ w⟩
  obtain ⟨k, rfl⟩ := Int.eq_ofNat_of_zero_le (show 0 ≤ a by omega)
  have hk : k ≤ s.size := by omega
  rw [bsB_in s k hk]
  obtain ⟨st, hst⟩ : ∃ st, st = k - 4 := ⟨_, rfl⟩
  obtain ⟨en, hen⟩ : ∃ en, en = min s.size (k + 4) := ⟨_, rfl⟩
  rw [← hst, ← hen]
  have hmx : max (0 : Int) ((k : Int) - 4) = (st : Int) := by omega
  have hmn : min (s.size : Int) ((k : Int) + 4) = (en : Int) := by omega
  have hse : st ≤ en := by omega
  have hes : en ≤ s.size := by omega
  have hsl := fun W => slice_lohi s (st : Int) (en : Int) st en rfl rfl hse hes W
  obtain ⟨z, hz⟩ : ∃ z, z = s.extract st en := ⟨_, rfl⟩
  rw [← hz] at hsl ⊢
  obtain ⟨kk, hkk⟩ : ∃ kk, kk = k - st := ⟨_, rfl⟩
  rw [← hkk]
  have hks : st + kk = k := by omega
  generalize hE : (k == s.size) = E
  generalize hO : bsFrom z kk E z.size 0 10 = out
  have HO := Lib.hid hO
  have HE := Lib.hid hE
  have HK := Lib.hid hks
  have HZ := Lib.hid hz
  clear hz hkk hst hen hO hE hks
  go_enter Tryz.func45, Tryz.ntmps45
  go_wp2_with fail
  go_loopw [8] (fun last wr => BsRel z w kk E out last wr) (fun _ wr => z.size - wr.iterPos w.heap.size)
  case atStart =>
    refine ⟨0, z.size, 10, rfl, ?_, (Below.refl _ w).alloc (Nat.le_refl _) _, HO.out, by omega⟩
    have := World.iter_heap w z 0
    simpa using this
  case round =>
    obtain ⟨pos, fuel, lst, rfl, hit, hbw, hacc, hfu⟩ := hrel
    have hsz : w.heap.size < wr.heap.size := (Array.getElem?_eq_some_iff.1 hit).1
    by_cases hp : pos < z.size
    · have hnx : ∀ ty, (Instr.next (.pointer (some ⟨w.heap.size, 0, none⟩)) true ty).run Tryz.prog wr = _ := fun ty => Lib.run_next_any_at wr w.heap.size z pos ty hit hp
      have hwd := width_pos z pos hp
      have hd1 := decode_fits z pos
      have hit2 := Lib.iterAt_heap wr w.heap.size z pos (pos + (Utf8.decode z pos).2) hit
      have hbw2 := Lib.below_iterAt hbw (k := w.heap.size) (by omega) z (pos + (Utf8.decode z pos).2)
      obtain ⟨f, rfl⟩ : ∃ f, fuel = f + 1 := ⟨fuel - 1, by omega⟩
      have Hit := Lib.hid hit
      have sh := flkShown_any (Utf8.decode z pos).1 (wr.iterAt w.heap.size z (pos + (Utf8.decode z pos).2))
      have hzs : z.size ≤ 8 := by rw [HZ.out]; simp; omega
      clear hbw hit
      by_cases hpk : pos = kk
      · have HS := Lib.hid (bsFrom_hit hp hpk hacc)
        have heq : ((st : Int) + (pos : Int) == (k : Int)) = true := by have := HK.out; simp; omega
        clear hacc
        subst hpk
        go_wp2_with fail
        refine sh.mono ?_
        rintro e w1 ⟨rfl, rfl⟩
        go_wp2
        go_ret2
        exact ⟨by rw [HS.out]; rfl, hbw2⟩
      · have HS := Lib.hid (bsFrom_on hp hpk hacc)
        have heq : ((st : Int) + (pos : Int) == (k : Int)) = false := by have := HK.out; simp; omega
        clear hacc
        go_wp2_with fail
        refine sh.mono ?_
        rintro e w1 ⟨rfl, rfl⟩
        go_wp2
        go_roundw
        case rel => exact ⟨_, f, _, rfl, hit2, hbw2, HS.out, by omega⟩
        case measure => simp only [World.iterPos, hit2, Hit.out]; omega
    · have hnx : ∀ ty, (Instr.next (.pointer (some ⟨w.heap.size, 0, none⟩)) true ty).run Tryz.prog wr = _ := fun ty => Lib.run_next_end_at wr w.heap.size z pos ty hit hp
      rw [bsFrom_end z kk E fuel pos lst hp] at hacc
      cases E with
      | true =>
        have heq : ((k : Int) == (s.size : Int)) = true := by have := HE.out; simp at this; simp; omega
        have HA := Lib.hid hacc
        clear hacc
        go_wp2
        go_ret2
        exact ⟨by rw [← HA.out]; rfl, hbw⟩
      | false =>
        have heq : ((k : Int) == (s.size : Int)) = false := by have := HE.out; simp at this; simp; omega
        have HA := Lib.hid hacc
        clear hacc
        go_wp2
        go_ret2
        exact ⟨by rw [← HA.out]; rfl, hbw⟩
theorem around_any (s : ByteArray) (a b : Int) (w : World) (hs : s.size ≤ 17592186044416) :
    Calls Tryz.prog 21 #[.string s, .int .i64 a, .int .i64 b] w fun e w' => e = .returned (.tuple #[.int .i32 (aroundB s a b).1, .int .i32 (aroundB s a b).2]) ∧ Below w.heap.size w w' := by
  have c1 := beside_any s a w hs
  have c2 := fun w1 => beside_any s b w1 hs
  have C1 := Lib.hid c1
  have C2 := Lib.hid c2
  clear c1 c2 hs
  go_enter Tryz.func21, Tryz.ntmps21
  go_wp2_with fail
  refine C1.out.mono ?_
  rintro e w1 ⟨rfl, b1⟩
  go_wp2_with fail
  refine (C2.out _).mono ?_
  rintro e w2 ⟨rfl, b2⟩
  go_wp2
  go_ret2
  exact ⟨rfl, b1.then b2⟩
end Go.Proofs.YteihmgcphbijhaaGreatDoor

namespace Go.Proofs.YteihmgcphbijhaaGreatDoor
open Go.RowKit Go.Maps
set_option linter.unusedSimpArgs false
set_option linter.unusedVariables false
set_option maxRecDepth 100000
theorem wp_append_itm1 {w : World} {o : Oper} {a : Act} {K : Act → World → Prop} {Q : Exit → Act → World → Prop} (s x : Operand)
    (ho : o.op = .call { callee := .builtin .append, args := #[s, x], argTypes := #[45, 45] }) (base : Nat) (v : Value) (X : List (Itm × Value)) (hs : a.eval s = v)
    (hown : w.ownsRow base 75 5 v X.length (flt itC X)) (ad : Addr) (c : Nat) (more : List (Itm × Value)) (hx : a.eval x = .slice (some ad) more.length c) (hrow : EltsAt w itC 5 (some ad) c more) (hsl : ∀ x ∈ more, ∃ A n c, x.2 = Value.slice A n c)
    (h63 : X.length + more.length ≤ 1000000) (hbase : base ≤ w.heap.size)
    (h : ∀ v' w', w'.ownsRow base 75 5 v' (X ++ more).length (flt itC (X ++ more)) → w.grownBy w' v.ownBlock → K (a.put o.dst v') w') : o.wp Tryz.prog a w K Q := by
  obtain ⟨i0, hi, hz0, hz1, hz2⟩ := info_parts infoItem
  refine wp_append_own w s x 45 ho base 75 i0 (.agg #[.int .u8 0, .int .i64 0, .bool false, .bool false, .slice none 0 0]) 5 48 Tryz.underlying45 hi hz0 hz1 hz2 rfl (by decide) v X.length (flt itC X) hs hown ad more.length c (flt itC more) hx (flt_length itC_length more) (hrow.flat itC_length (by decide)) (its_one more hsl) (by unfold maxLen; omega) (by omega) hbase ?_
  intro v' w' h2 h3 _
  exact h v' w' (by rw [List.length_append, flt_append]; exact h2) h3
section
variable {w0 w : World} {pb : Nat} {s : ByteArray} {atv tbv hv iv ov : Value} {nsh : Nat} {Z : List (Itm × Value)} {O : List Opn} {D : List Dfn} {al : List Nat} {E : List Ent} {C frm tow : Nat}
set_option maxHeartbeats 4000000 in
theorem put_run (V : Env) (h : RawSt w w0.heap.size pb s atv tbv hv iv ov nsh Z O) (hr : Rep E Z O nsh) (hZ : Z.length ≤ 1000) (hs : s.size ≤ 1000) (b : UInt8) (n : Nat) :
    Calls Tryz.prog 14 #[.pointer (some ⟨pb, 0, none⟩), tkV (.run b n), .int .i64 frm, .int .i64 tow] w fun e w' => e = .returned (.int .i64 tow) ∧ Done w0 w pb s atv tbv hv (stepI V D s.data.toList frm tow (.run b n) E).1 w' := by
  unfold tkV
  have y1 := fun v W => noMark 69 (by decide) v W
  have y2 := fun v W => asRun v W
  have ca := fun W => around_any s (frm : Int) (tow : Int) W (by omega)
  have hss : (⟨s.data.toList.toArray⟩ : ByteArray) = s := by simp
  have hst : (stepI V D s.data.toList frm tow (.run b n) E).1 = .it ⟨b, n, n, opensB b.toNat (aroundB s frm tow).1 (aroundB s frm tow).2, opensB b.toNat (aroundB s frm tow).2 (aroundB s frm tow).1, []⟩ :: E := by
    unfold stepI
    simp only [hss]
  rw [hst]
  generalize (aroundB s (frm : Int) (tow : Int)) = ar at *
  obtain ⟨bf, af⟩ := ar
  dsimp only at ca ⊢
  have HH := Lib.hid h
  have HR := Lib.hid hr
  clear h hr hst hss
  have hb := ((Below.refl w.heap.size w).alloc (Nat.le_refl _) (.cells #[.string ⟨#[]⟩] 65)).alloc (by simp) (.cells #[.int .u8 b.toNat, .int .i64 n] 69)
  have hbox := alloc_at (w1 := (w.alloc (.cells #[.string ⟨#[]⟩] 65))) (o := .cells #[.int .u8 b.toNat, .int .i64 n] 69) (g := w.heap.size + 1) (by simp)
  obtain ⟨c0, _⟩ := (HH.out.below hb).bcells
  have HB := Lib.hid hb
  have HX := Lib.hid hbox
  clear hb hbox
  go_enter Tryz.func14, Tryz.ntmps14
  go_wp2_with fail
  refine (ca _).mono ?_
  rintro e w3 ⟨rfl, b3⟩
  have hb3 := HB.out.then b3
  have hbox3 := (b3.block _ (Array.getElem?_eq_some_iff.1 HX.out).1).trans HX.out
  have hlt3 := (Array.getElem?_eq_some_iff.1 hbox3).1
  have h3 := HH.out.below hb3
  have HB3 := Lib.hid hb3
  have HX3 := Lib.hid hbox3
  have H3 := Lib.hid h3
  have HL3 := Lib.hid hlt3
  clear ca b3 hb3 hbox3 h3 hlt3 HB HX c0
  go_wp2_with fail
  have hd3 := (Below.refl w3.heap.size w3).drew
  have hlt := (H3.out.below hd3).bcells.2.2.2.2.2.2.2.2
  have HD := Lib.hid (H3.out.below hd3)
  have HKD := Lib.hid ((KI.of (B := w0.heap.size) HB3.out HH.out.baseLe).thenB hd3 H3.out.baseLe)
  have HXD := Lib.hid ((hd3.block _ HL3.out).trans HX3.out)
  obtain ⟨Ai, ci, rfl, _⟩ := own_form H3.out.row
  refine wp_region_N (fun W => W.cell? ⟨pb, 4, none⟩ = some (.slice Ai Z.length ci) ∧ W.cell? ⟨w.heap.size + 1, 0, none⟩ = some (.int .u8 b.toNat) ∧ W.cell? ⟨w.heap.size + 1, 1, none⟩ = some (.int .i64 n)) (fun n => decide (n < 22)) (by kernel_rfl) ?_
  have hinv : ∀ W, Below w3.drew.heap.size w3.drew W → W.cell? ⟨pb, 4, none⟩ = some (.slice Ai Z.length ci) ∧ W.cell? ⟨w.heap.size + 1, 0, none⟩ = some (.int .u8 b.toNat) ∧ W.cell? ⟨w.heap.size + 1, 1, none⟩ = some (.int .i64 n) := fun W hW => by
    have hx := (hW.block _ (Array.getElem?_eq_some_iff.1 HXD.out).1).trans HXD.out
    exact ⟨(HD.out.below hW).bcells.2.2.2.2.1, (cell_of_row W _ 0 _ _ (0, 0) hx).trans rfl, (cell_of_row W _ 1 _ _ (0, 0) hx).trans rfl⟩
  have HINV := Lib.hid hinv
  have HS := Lib.hid (hinv _ (Below.refl _ _))
  have hgx : w.heap.size + 1 < w3.drew.heap.size := (Array.getElem?_eq_some_iff.1 HXD.out).1
  have HGX := Lib.hid hgx
  clear hd3 hinv H3 HB3 HX3 HL3 hgx
  generalize w3.drew = w4 at *
  refine wpAnyN_take_at 0 43 (v := ?_) rfl rfl (by kernel_rfl) (by kernel_rfl) (by kernel_rfl) (by kernel_rfl) (by kernel_rfl) (fun _ _ _ h => h) (by rfl) ?_ HS.out ?_
  rotate_left
  · intro W hSw; (try dsimp only at hSw); obtain ⟨q0, q1, q2⟩ := hSw; go_simp; (try with_reducible rfl)
  simp only [Act.put, List.setIfInBounds_toArray, List.set_cons_zero, List.set_cons_succ]
  refine wpAnyN_take_at 1 44 (v := ?_) rfl rfl (by kernel_rfl) (by kernel_rfl) (by kernel_rfl) (by kernel_rfl) (by kernel_rfl) (fun _ _ _ h => h) (by rfl) ?_ HS.out ?_
  rotate_left
  · intro W hSw; (try dsimp only at hSw); obtain ⟨q0, q1, q2⟩ := hSw; go_simp; (try with_reducible rfl)
  simp only [Act.put, List.setIfInBounds_toArray, List.set_cons_zero, List.set_cons_succ]
  refine wpAnyN_take_at 2 45 (v := ?_) rfl rfl (by kernel_rfl) (by kernel_rfl) (by kernel_rfl) (by kernel_rfl) (by kernel_rfl) (fun _ _ _ h => h) (by rfl) ?_ HS.out ?_
  rotate_left
  · intro W hSw; (try dsimp only at hSw); obtain ⟨q0, q1, q2⟩ := hSw; go_simp; (try with_reducible rfl)
  simp only [Act.put, List.setIfInBounds_toArray, List.set_cons_zero, List.set_cons_succ]
  refine wpAnyN_take_at 3 46 (v := ?_) rfl rfl (by kernel_rfl) (by kernel_rfl) (by kernel_rfl) (by kernel_rfl) (by kernel_rfl) (fun _ _ _ h => h) (by rfl) ?_ HS.out ?_
  rotate_left
  · intro W hSw; (try dsimp only at hSw); obtain ⟨q0, q1, q2⟩ := hSw; go_simp; (try with_reducible rfl)
  simp only [Act.put, List.setIfInBounds_toArray, List.set_cons_zero, List.set_cons_succ]
  refine wpAnyN_take_at 4 47 (v := ?_) rfl rfl (by kernel_rfl) (by kernel_rfl) (by kernel_rfl) (by kernel_rfl) (by kernel_rfl) (fun _ _ _ h => h) (by rfl) ?_ HS.out ?_
  rotate_left
  · intro W hSw; (try dsimp only at hSw); obtain ⟨q0, q1, q2⟩ := hSw; go_simp; (try with_reducible rfl)
  simp only [Act.put, List.setIfInBounds_toArray, List.set_cons_zero, List.set_cons_succ]
  refine wpAnyN_take_at 5 48 (v := ?_) rfl rfl (by kernel_rfl) (by kernel_rfl) (by kernel_rfl) (by kernel_rfl) (by kernel_rfl) (fun _ _ _ h => h) (by rfl) ?_ HS.out ?_
  rotate_left
  · intro W hSw; (try dsimp only at hSw); obtain ⟨q0, q1, q2⟩ := hSw; go_simp; (try with_reducible rfl)
  simp only [Act.put, List.setIfInBounds_toArray, List.set_cons_zero, List.set_cons_succ]
  refine wpAnyN_take_at 6 49 (v := ?_) rfl rfl (by kernel_rfl) (by kernel_rfl) (by kernel_rfl) (by kernel_rfl) (by kernel_rfl) (fun _ _ _ h => h) (by rfl) ?_ HS.out ?_
  rotate_left
  · intro W hSw; (try dsimp only at hSw); obtain ⟨q0, q1, q2⟩ := hSw; go_simp; (try with_reducible rfl)
  simp only [Act.put, List.setIfInBounds_toArray, List.set_cons_zero, List.set_cons_succ]
  refine wpAnyN_take_at 7 50 (v := ?_) rfl rfl (by kernel_rfl) (by kernel_rfl) (by kernel_rfl) (by kernel_rfl) (by kernel_rfl) (fun _ _ _ h => h) (by rfl) ?_ HS.out ?_
  rotate_left
  · intro W hSw; (try dsimp only at hSw); obtain ⟨q0, q1, q2⟩ := hSw; go_simp; (try with_reducible rfl)
  simp only [Act.put, List.setIfInBounds_toArray, List.set_cons_zero, List.set_cons_succ]
  refine wpAnyN_take_at 8 51 (v := ?_) rfl rfl (by kernel_rfl) (by kernel_rfl) (by kernel_rfl) (by kernel_rfl) (by kernel_rfl) (fun _ _ _ h => h) (by rfl) ?_ HS.out ?_
  rotate_left
  · intro W hSw; (try dsimp only at hSw); obtain ⟨q0, q1, q2⟩ := hSw; go_simp; (try with_reducible rfl)
  simp only [Act.put, List.setIfInBounds_toArray, List.set_cons_zero, List.set_cons_succ]
  refine wpAnyN_take_at 9 52 (v := ?_) rfl rfl (by kernel_rfl) (by kernel_rfl) (by kernel_rfl) (by kernel_rfl) (by kernel_rfl) (fun _ _ _ h => h) (by rfl) ?_ HS.out ?_
  rotate_left
  · intro W hSw; (try dsimp only at hSw); obtain ⟨q0, q1, q2⟩ := hSw; go_simp; (try with_reducible rfl)
  simp only [Act.put, List.setIfInBounds_toArray, List.set_cons_zero, List.set_cons_succ]
  refine wpAnyN_take_at 10 53 (v := ?_) rfl rfl (by kernel_rfl) (by kernel_rfl) (by kernel_rfl) (by kernel_rfl) (by kernel_rfl) (fun _ _ _ h => h) (by rfl) ?_ HS.out ?_
  rotate_left
  · intro W hSw; (try dsimp only at hSw); obtain ⟨q0, q1, q2⟩ := hSw; go_simp; (try with_reducible rfl)
  simp only [Act.put, List.setIfInBounds_toArray, List.set_cons_zero, List.set_cons_succ]
  refine wpAnyN_take_at 11 54 (v := ?_) rfl rfl (by kernel_rfl) (by kernel_rfl) (by kernel_rfl) (by kernel_rfl) (by kernel_rfl) (fun _ _ _ h => h) (by rfl) ?_ HS.out ?_
  rotate_left
  · intro W hSw; (try dsimp only at hSw); obtain ⟨q0, q1, q2⟩ := hSw; go_simp; (try with_reducible rfl)
  simp only [Act.put, List.setIfInBounds_toArray, List.set_cons_zero, List.set_cons_succ]
  refine wpAnyN_take_at 12 55 (v := ?_) rfl rfl (by kernel_rfl) (by kernel_rfl) (by kernel_rfl) (by kernel_rfl) (by kernel_rfl) (fun _ _ _ h => h) (by rfl) ?_ HS.out ?_
  rotate_left
  · intro W hSw; (try dsimp only at hSw); obtain ⟨q0, q1, q2⟩ := hSw; go_simp; (try with_reducible rfl)
  simp only [Act.put, List.setIfInBounds_toArray, List.set_cons_zero, List.set_cons_succ]
  refine wpAnyN_take_at 14 57 (v := ?_) rfl rfl (by kernel_rfl) (by kernel_rfl) (by kernel_rfl) (by kernel_rfl) (by kernel_rfl) (fun _ _ _ h => h) (by rfl) ?_ HS.out ?_
  rotate_left
  · intro W hSw; (try dsimp only at hSw); obtain ⟨q0, q1, q2⟩ := hSw; go_simp; (try with_reducible rfl)
  simp only [Act.put, List.setIfInBounds_toArray, List.set_cons_zero, List.set_cons_succ]
  refine wpAnyN_take_at 15 58 (v := ?_) rfl rfl (by kernel_rfl) (by kernel_rfl) (by kernel_rfl) (by kernel_rfl) (by kernel_rfl) (fun _ _ _ h => h) (by rfl) ?_ HS.out ?_
  rotate_left
  · intro W hSw; (try dsimp only at hSw); obtain ⟨q0, q1, q2⟩ := hSw; go_simp; (try with_reducible rfl)
  simp only [Act.put, List.setIfInBounds_toArray, List.set_cons_zero, List.set_cons_succ]
  refine wpAnyN_take_at 16 59 (v := ?_) rfl rfl (by kernel_rfl) (by kernel_rfl) (by kernel_rfl) (by kernel_rfl) (by kernel_rfl) (fun _ _ _ h => h) (by rfl) ?_ HS.out ?_
  rotate_left
  · intro W hSw; (try dsimp only at hSw); obtain ⟨q0, q1, q2⟩ := hSw; go_simp; (try with_reducible rfl)
  simp only [Act.put, List.setIfInBounds_toArray, List.set_cons_zero, List.set_cons_succ]
  refine wpAnyN_take_at 17 60 (v := ?_) rfl rfl (by kernel_rfl) (by kernel_rfl) (by kernel_rfl) (by kernel_rfl) (by kernel_rfl) (fun _ _ _ h => h) (by rfl) ?_ HS.out ?_
  rotate_left
  · intro W hSw; (try dsimp only at hSw); obtain ⟨q0, q1, q2⟩ := hSw; go_simp; (try with_reducible rfl)
  simp only [Act.put, List.setIfInBounds_toArray, List.set_cons_zero, List.set_cons_succ]
  refine wpAnyN_one (i := 13) rfl (by kernel_rfl) (fun K hK => ?_)
  go_simp
  go_at_call 22
  refine (flkOpens_any _ _ _ _).mono ?_
  rintro e w5 ⟨rfl, rfl⟩
  refine hK _ _ (fun _ => HS.out) ?_
  clear hK
  (try simp only [Act.put, List.setIfInBounds_toArray, List.set_cons_zero, List.set_cons_succ])
  refine wpAnyN_one (i := 18) rfl (by kernel_rfl) (fun K hK => ?_)
  go_simp
  go_at_call 23
  refine (flkCloses_any _ _ _ _).mono ?_
  rintro e w5 ⟨rfl, rfl⟩
  refine hK _ _ (fun _ => HS.out) ?_
  clear hK
  (try simp only [Act.put, List.setIfInBounds_toArray, List.set_cons_zero, List.set_cons_succ])
  refine wpAnyN_take_at 19 62 (v := ?_) rfl rfl (by kernel_rfl) (by kernel_rfl) (by kernel_rfl) (by kernel_rfl) (by kernel_rfl) (fun _ _ _ h => h) (by rfl) ?_ HS.out ?_
  rotate_left
  · intro W hSw; (try dsimp only at hSw); obtain ⟨q0, q1, q2⟩ := hSw; go_simp; (try with_reducible rfl)
  simp only [Act.put, List.setIfInBounds_toArray, List.set_cons_zero, List.set_cons_succ]
  have hr2 := Lib.hid (HD.out.row.alloc (.cells #[.int .u8 b.toNat, .int .i64 n, .bool (opensB b.toNat bf af), .bool (opensB b.toNat af bf), .slice none 0 0] 75))
  refine wpAnyN_one (i := 20) rfl (by kernel_rfl) (fun K hK => ?_)
  go_simp
  refine hK _ _ (fun _ => HINV.out _ ((Below.refl _ _).alloc (Nat.le_refl _) _)) ?_
  clear hK
  (try simp only [Act.put, List.setIfInBounds_toArray, List.set_cons_zero, List.set_cons_succ])
  refine wpAnyN_one (i := 21) rfl (by kernel_rfl) (fun K hK => ?_)
  rw [if_pos (by rfl)]
  refine wp_append_itm1 _ _ rfl w0.heap.size _ Z (by rfl) hr2.out ⟨w4.heap.size, 0, none⟩ 1 [(⟨b, n, n, opensB b.toNat bf af, opensB b.toNat af bf, []⟩, .slice none 0 0)] (by rfl) (itm_lit (x := (⟨b, n, n, opensB b.toNat bf af, opensB b.toNat af bf, []⟩, .slice none 0 0)) (heap_alloc_new _ _)) (by intro x hx; simp at hx; subst hx; exact ⟨none, 0, 0, rfl⟩) (by simp; omega) (by have := HD.out.baseLe; simp; omega) ?_
  intro v6 w6 ho6 hg6
  have hg := (World.grownBy_alloc w4 (.cells #[.int .u8 b.toNat, .int .i64 n, .bool (opensB b.toNat bf af), .bool (opensB b.toNat af bf), .slice none 0 0] 75) (Value.slice Ai Z.length ci).ownBlock).trans hg6
  have hfin := HD.out.push (⟨b, n, n, opensB b.toNat bf af, opensB b.toNat af bf, []⟩, .slice none 0 0) (NdAt.nil _) hg ho6
  rw [List.length_append, List.length_singleton] at ho6
  obtain ⟨A6, c6', rfl, _⟩ := own_form ho6
  have hb6 := (hg.block pb hlt (fun e => own_ne HD.out.row HD.out.blk (by decide) e.symm)).trans HD.out.blk
  have d4 : w6.cell? ⟨pb, 4, none⟩ = some (.slice Ai Z.length ci) := (cell_of_row w6 pb 4 _ _ (0, 0) hb6).trans rfl
  have df : w6.frozen? ⟨pb, 4, none⟩ = false := by simp [World.frozen?, hb6]
  have hx6 := (hg.block (w.heap.size + 1) HGX.out (fun e => own_ne HD.out.row HXD.out (by decide) e.symm)).trans HXD.out
  have HF := Lib.hid (show Done w0 w pb s atv tbv hv _ (w6.setCell ⟨pb, 4, none⟩ (.slice A6 (Z.length + 1) c6')) from ⟨⟨_, _, _, _, _, hfin.1, HR.out.it ⟨b, n, n, opensB b.toNat bf af, opensB b.toNat af bf, []⟩ (.slice none 0 0)⟩, HKD.out.trans hfin.2⟩)
  refine hK _ _ (fun _ => ⟨d4, (cell_of_row w6 _ 0 _ _ (0, 0) hx6).trans rfl, (cell_of_row w6 _ 1 _ _ (0, 0) hx6).trans rfl⟩) ?_
  clear hK hfin ho6 hg6 hg hb6 hx6
  (try simp only [Act.put, List.setIfInBounds_toArray, List.set_cons_zero, List.set_cons_succ])
  refine wpAnyN_rest 22 [_, _, _] rfl (by kernel_rfl) (by rfl) ?_
  go_wp2
  go_ret
  exact ⟨rfl, HF.out⟩
end
end Go.Proofs.YteihmgcphbijhaaGreatDoor

namespace Go.Proofs.YteihmgcphbijhaaGreatDoor
open Go.RowKit Go.Maps
set_option linter.unusedSimpArgs false
set_option linter.unusedVariables false
set_option maxRecDepth 100000
theorem atms_nil (w : World) : AtmsAt w (.slice none 0 0) [] := ⟨none, 0, rfl, EltsAt.nil _ _ _ _⟩
theorem txA_nil : txA [] = fun _ => [] := by
  funext k
  unfold txA
  rw [if_neg (by simp)]
section
variable {w0 w : World} {pb : Nat} {s : ByteArray} {tbv hv iv ov : Value} {nsh : Nat} {Z : List (Itm × Value)} {O : List Opn} {D : List Dfn} {al : List Nat} {E : List Ent} {C frm tow : Nat}
theorem put_raw (h : RawSt w w0.heap.size pb s (.slice none 0 0) tbv hv iv ov nsh Z O) (hc : Ctx w0 w tbv hv D al s) (hr : Rep E Z O nsh) (k : PotSt C frm E) (hC : C * frm ≤ 1000000) (hfs : frm ≤ s.size) (hts : tow ≤ s.size)
    (t : Tk) (ht : t ≠ .no) (hm : ∀ m, t = .mark m → m = [91] ∨ m = [33, 91] ∨ m = [93]) (hx : ∀ x, t = .code x → x.length ≤ 10000) (hn : ∀ k, t = .atom k → ∃ n : Nat, k = n) :
    Calls Tryz.prog 14 #[.pointer (some ⟨pb, 0, none⟩), tkV t, .int .i64 frm, .int .i64 tow] w fun e w' => ∃ i : Int, e = .returned (.int .i64 i) ∧ i = (tow : Int) + (stepI rawE D s.data.toList frm tow t E).2 ∧ Done w0 w pb s (.slice none 0 0) tbv hv (stepI rawE D s.data.toList frm tow t E).1 w' := by
  have hf : frm ≤ 1000 := Nat.le_trans hfs hc.sl
  have hz := zok_of hr k hf hC
  have hO : O.length ≤ 1000 := by have := hr.opLe; have := k.len; omega
  have rest : ∀ (u : TypeId) (x : Value) (nd : List Iln), tkV t = .iface u x → u ≠ 65 → u ≠ 69 → stepI rawE D s.data.toList frm tow t E = (.it (ndI nd) :: E, 0) →
      (∀ W, Below w.heap.size w W → Calls Tryz.prog 25 #[.pointer (some ⟨pb, 0, none⟩), tkV t] W fun e w' => (∃ v, e = .returned v ∧ NdAt w' v nd) ∧ Below W.heap.size W w') →
      Calls Tryz.prog 14 #[.pointer (some ⟨pb, 0, none⟩), tkV t, .int .i64 frm, .int .i64 tow] w fun e w' => ∃ i : Int, e = .returned (.int .i64 i) ∧ i = (tow : Int) + (stepI rawE D s.data.toList frm tow t E).2 ∧ Done w0 w pb s (.slice none 0 0) tbv hv (stepI rawE D s.data.toList frm tow t E).1 w' := by
    intro u x nd e h1 h2 hs hnd
    rw [hs]
    rw [e] at hnd ⊢
    refine (put_rest h hr hz.len h1 h2 nd hnd).mono ?_
    rintro e w' ⟨rfl, hd⟩
    exact ⟨_, rfl, by simp, hd⟩
  cases t with
  | no => exact absurd rfl ht
  | word x => exact rest _ _ [wordsI 0 x] rfl (by decide) (by decide) rfl (fun W hW => nodes_word x)
  | code x => exact rest _ _ [⟨2, 0, restL (fun _ => []) x, [], []⟩] rfl (by decide) (by decide) rfl (fun W hW => by
      have := nodes_code (h.below hW) (atms_nil W) ((hc.tk.below hc.below).below hW) x (hx x rfl) (by simp) (by intro a ha; cases ha)
      rwa [txA_nil] at this)
  | tag x => exact rest _ _ [⟨9, 0, x, [], []⟩] rfl (by decide) (by decide) rfl (fun W hW => nodes_tag x)
  | auto u x => exact rest _ _ [⟨5, 0, [], u, []⟩, wordsI 1 x] rfl (by decide) (by decide) rfl (fun W hW => nodes_auto u x)
  | brk b => exact rest _ _ [⟨if b then 8 else 7, 0, [], [], []⟩] rfl (by decide) (by decide) rfl (fun W hW => nodes_brk b)
  | atom j =>
    obtain ⟨n, rfl⟩ := hn j rfl
    exact rest _ _ [] rfl (by decide) (by decide) rfl (fun W hW => nodes_lost (h.below hW) (atms_nil W) n (by simp))
  | run b j =>
    refine (put_run (D := D) rawE h hr hz.len hc.sl b j).mono ?_
    rintro e w' ⟨rfl, hd⟩
    exact ⟨_, rfl, by simp [stepI], hd⟩
  | mark m =>
    refine put_mark m (Q := fun i w' => i = (tow : Int) + (stepI rawE D s.data.toList frm tow (.mark m) E).2 ∧ Done w0 w pb s (.slice none 0 0) tbv hv (stepI rawE D s.data.toList frm tow (.mark m) E).1 w') ?_
    intro W hW
    have k1 := KI.of (B := w0.heap.size) hW h.baseLe
    refine (mark_any rawE (h.below hW) (hc.keep k1) hr k hC hfs hts m (hm m rfl)).mono ?_
    rintro e w' ⟨i, rfl, hi, hd⟩
    exact ⟨i, rfl, hi, hd.1, k1.trans hd.2⟩
end
end Go.Proofs.YteihmgcphbijhaaGreatDoor

namespace Go.Proofs.YteihmgcphbijhaaGreatDoor
open Go.RowKit Go.Maps
set_option linter.unusedSimpArgs false
set_option linter.unusedVariables false
set_option maxRecDepth 100000
theorem next_mark_is (l m : List UInt8) (n : Nat) (h : nextL l = (.mark m, n)) : m = [91] ∨ m = [33, 91] ∨ m = [93] := by
  unfold nextL at h
  split at h
  · unfold wordTk at h; simp at h
  · next h0 =>
    have hn : n ≠ 0 := fun e => h0 (by rw [h, e])
    clear h0
    unfold firstTk at h
    simp only at h
    split at h
    · unfold atomL at h; simp only at h; split at h <;> cases h
    · split at h
      · unfold escapedL at h
        split at h
        · cases h
        · split at h
          · split at h <;> cases h
          · cases h
      · split at h
        · cases h
        · split at h
          · exfalso
            have : ∀ (f : Nat) (l : List UInt8) (n k : Nat) (m : List UInt8) (q : Nat), codeGo l n f k ≠ (.mark m, q) := by
              intro f
              induction f with
              | zero => intro l n k m q e; cases e
              | succ f ih =>
                intro l n k m q e
                unfold codeGo at e
                split at e
                · cases e
                · simp only at e
                  split at e
                  · cases e
                  · exact ih _ _ _ _ _ e
            exact this _ _ _ _ _ _ h
          · split at h
            · unfold pointedL at h
              simp only at h
              split at h
              · cases h
              · split at h <;> cases h
            · split at h
              · cases h
              · split at h
                · unfold markTk at h
                  split at h
                  · cases h; exact Or.inr (Or.inl rfl)
                  · split at h
                    · cases h; exact Or.inl rfl
                    · split at h
                      · cases h; exact Or.inr (Or.inr rfl)
                      · cases h; exact absurd rfl hn
                · split at h
                  · unfold lineTk at h
                    simp only at h
                    split at h <;> cases h
                  · cases h
theorem next_atom_nat (l : List UInt8) (k : Int) (n : Nat) (h : nextL l = (.atom k, n)) : ∃ m : Nat, k = m := by
  unfold nextL at h
  split at h
  · unfold wordTk at h; simp at h
  · unfold firstTk at h
    simp only at h
    split at h
    · obtain ⟨m, hm⟩ := atomL_nat l
      rw [h] at hm
      injection hm with hm
      exact ⟨m, hm⟩
    · split at h
      · unfold escapedL at h
        split at h
        · cases h
        · split at h
          · split at h <;> cases h
          · cases h
      · split at h
        · cases h
        · split at h
          · exfalso
            have : ∀ (f : Nat) (l : List UInt8) (n k : Nat) (m : Int) (q : Nat), codeGo l n f k ≠ (.atom m, q) := by
              intro f
              induction f with
              | zero => intro l n k m q e; cases e
              | succ f ih =>
                intro l n k m q e
                unfold codeGo at e
                split at e
                · cases e
                · simp only at e
                  split at e
                  · cases e
                  · exact ih _ _ _ _ _ e
            exact this _ _ _ _ _ _ h
          · split at h
            · unfold pointedL at h
              simp only at h
              split at h
              · cases h
              · split at h <;> cases h
            · split at h
              · cases h
              · split at h
                · unfold markTk at h
                  split at h
                  · cases h
                  · split at h
                    · cases h
                    · split at h <;> cases h
                · split at h
                  · unfold lineTk at h
                    simp only at h
                    split at h <;> cases h
                  · cases h
section
variable {w : World} {s : ByteArray} {tbv : Value} {D : List Dfn}
set_option maxHeartbeats 4000000 in
theorem parse_raw (ht : TbAt w tbv D) (htk : TkW w) (hD : D.length ≤ 1000) (hs : s.size ≤ 1000) :
    Calls Tryz.prog 8 #[.string s, .slice none 0 0, tbv] w fun e w' => (∃ v, e = .returned v ∧ NdAt w' v (rawI D s.data.toList)) ∧ Below w.heap.size w w' := by
  have ch := hopeless_any s w (by omega)
  obtain ⟨pp, rfl⟩ : ∃ p, tbv = .pointer p := by
    rcases ht with ⟨e, _⟩ | ⟨B, b, v, m, e, _⟩
    · exact ⟨_, e⟩
    · exact ⟨_, e⟩
  have HT := Lib.hid ht
  have HK := Lib.hid htk
  clear ht htk
  go_enter Tryz.func8, Tryz.ntmps8
  go_wp2_with fail
  refine ch.mono ?_
  rintro e w1 ⟨⟨al, ⟨hv, rfl, hown⟩, hok, hasc, hlen⟩, b1⟩
  obtain ⟨Ah, ch', rfl, _⟩ := own_form hown.1
  have hb2 := b1.alloc b1.size (.cells #[.string s, .slice none 0 0, (.pointer pp), (.slice Ah (natI al).length ch'), .slice none 0 0, .slice none 0 0, .int .i64 0] 48)
  have hst : RawSt (w1.alloc (.cells #[.string s, .slice none 0 0, (.pointer pp), (.slice Ah (natI al).length ch'), .slice none 0 0, .slice none 0 0, .int .i64 0] 48)) w.heap.size w1.heap.size s (.slice none 0 0) (.pointer pp) (.slice Ah (natI al).length ch') (.slice none 0 0) (.slice none 0 0) 0 [] [] :=
    ⟨heap_alloc_new _ _, b1.size, World.ownsRow_nil _ _ _ _, (by intro x hx; cases hx), World.ownsRow_nil _ _ _ _⟩
  have hctx : Ctx w (w1.alloc (.cells #[.string s, .slice none 0 0, (.pointer pp), (.slice Ah (natI al).length ch'), .slice none 0 0, .slice none 0 0, .int .i64 0] 48)) (.pointer pp) (.slice Ah (natI al).length ch') D al s :=
    ⟨HK.out, HT.out, hb2, ⟨w.heap.size, ⟨hown.1.alloc _, hown.2⟩⟩, hok, hasc, hlen, hD, hs⟩
  have HST := Lib.hid hst
  have HC := Lib.hid hctx
  have HB := Lib.hid hb2
  clear ch hown hok hasc hlen b1 hb2 hst hctx
  go_wp2_with fail
  generalize hv : Value.slice Ah (natI al).length ch' = hvv at *
  have HW2 := Lib.hid (Nat.le_refl (w1.alloc (.cells #[.string s, .slice none 0 0, .pointer pp, hvv, .slice none 0 0, .slice none 0 0, .int .i64 0] 48)).heap.size)
  generalize hw2 : w1.alloc (.cells #[.string s, .slice none 0 0, .pointer pp, hvv, .slice none 0 0, .slice none 0 0, .int .i64 0] 48) = w2 at *
  go_loopw [8, 9, 10] (fun av v9 v10 wr => ∃ (i j : Nat) (iv ov : Value) (nsh : Nat) (Z : List (Itm × Value)) (O : List Opn) (E : List Ent), av = .int .i64 i ∧ j ≤ i ∧ j ≤ s.size ∧ RawSt wr w.heap.size w1.heap.size s (.slice none 0 0) (.pointer pp) hvv iv ov nsh Z O ∧ KI w.heap.size w2 wr ∧ Rep E Z O nsh ∧ PotSt 8 j E ∧ inlFrom rawE D s.data.toList i E = inlFrom rawE D s.data.toList 0 []) (fun av _ _ _ => s.size - (intOf av).toNat)
  case atStart => exact ⟨0, 0, _, _, 0, [], [], [], rfl, Nat.le_refl _, Nat.zero_le _, HST.out, KI.refl _ _, ⟨rfl, rfl, trivial, Nat.le_refl _⟩, ⟨Nat.le_refl _, Nat.zero_le _, (by intro x hx; cases hx), wrapD_nil, (by intro img p sh hm; cases hm)⟩, rfl⟩
  case round =>
    obtain ⟨i, j, iv, ov, nsh, Z, O, E, rfl, hji, hjs, hst, hki, hrep, hpot, heq⟩ := hrel
    by_cases hp : i < s.size
    · have hw := HB.out.trans hki.below
      have hn := tkNext_any s i hp wr (HK.out.below hw) (by omega)
      have hSl : s.data.toList.length = s.size := by simp
      have hne : s.data.toList.drop i ≠ [] := by intro e; have := congrArg List.length e; simp at this; omega
      have hlen := next_len _ hne
      rw [List.length_drop, hSl] at hlen
      have hcn := next_ne (s.data.toList.drop i)
      have hstep := fun t n e => inlFrom_tok rawE D s.data.toList i E (by omega) (t := t) (n := n) e
      have htok := next_tokN (E := rawE) (M := 0) (C := 8) (fun c => restL_len (fun k => Nat.zero_le _) c) (fun k x e => by cases e) (by omega) (s.data.toList.drop i) hne
      have htok2 := next_tokN (E := ⟨fun _ => none, id⟩) (M := 0) (C := 8) (fun c => by simp) (fun k x e => by cases e) (by omega) (s.data.toList.drop i) hne
      have hmk := next_mark_is (s.data.toList.drop i)
      have hrl := next_run_len (s.data.toList.drop i)
      have hat : ∀ k n, nextL (s.data.toList.drop i) = (.atom k, n) → ∃ m : Nat, k = m := fun k n e => next_atom_nat _ k n e
      generalize nextL (s.data.toList.drop i) = q at *
      obtain ⟨t, n⟩ := q
      dsimp only at hn hlen hcn htok htok2 hmk hrl hat
      have hpi := hpot.less hji
      have hstp := hstep t n rfl
      have hps := pot_step (by omega) rawE D s.data.toList i n t E hlen.1 htok (fun b k e => by subst e; exact hrl b k n rfl) (fun k x e => by cases e) hpi
      have cput := fun W (hb : Below wr.heap.size wr W) => put_raw (hst.below hb) ((HC.out.keep hki).keep (KI.of hb hst.baseLe)) hrep hpi (by omega) (Nat.le_of_lt hp) (show i + n ≤ s.size by omega) t hcn (fun m e => by subst e; exact hmk m n rfl) (fun x e => by subst e; have : 1 + x.length ≤ 8 * n := htok2; omega) (fun k e => by subst e; exact hat k n rfl)
      have HP := Lib.hid hps
      have HKI := Lib.hid hki
      have HSt := Lib.hid hst
      have HEQ := Lib.hid (hstp.symm.trans heq)
      have HLEN := Lib.hid hlen
      simp only [Int.natCast_add] at cput
      clear hps hki hst hstp heq hstep htok htok2 hmk hrl hat hpi hpot hrep hcn
      go_wp2_with fail
      refine hn.mono ?_
      rintro e w3 ⟨rfl, b3⟩
      have cp := cput w3 b3
      have HB3 := Lib.hid b3
      clear hn cput b3
      go_wp2_with fail
      refine cp.mono ?_
      rintro e w4 ⟨i', rfl, hi', ⟨iv4, ov4, nsh4, Z4, O4, h4, r4⟩, k4⟩
      have H4 := Lib.hid h4
      have R4 := Lib.hid r4
      have K4 := Lib.hid (HKI.out.trans ((KI.of HB3.out HSt.out.baseLe).trans k4))
      have HI := Lib.hid hi'
      clear cp h4 r4 k4 hi'
      go_wp2
      exact ⟨⟨i + n + (stepI rawE D s.data.toList i (i + n) t E).2, i + n, _, _, _, _, _, _, by rw [HI.out]; first | rfl | (congr 1; omega) | (congr 1), by omega, by have := HLEN.out; omega, H4.out, K4.out, R4.out, HP.out, HEQ.out⟩, by have := HLEN.out; have := HI.out; simp [intOf]; omega⟩
    · have hE : rawI D s.data.toList = groupI (Z.map Prod.fst) := by
        have e1 := inlFrom_end rawE D s.data.toList i E (by simp; omega)
        show inlE rawE D s.data.toList = _
        rw [inlE_from, ← heq, e1, hrep.its]
      have hz := zok_of hrep hpot (by omega) (by omega)
      obtain ⟨Ai, ci, rfl, hel⟩ := EltsAt.own itC_length hst.row
      have cg := fun W (hb : Below wr.heap.size wr W) => zgroup_any (w := W) hz (EltsAt.below hel hb) (fun x hx => (hst.nds x hx).keep (KI.of (B := w.heap.size) hb hst.baseLe))
      rw [← hE] at cg
      obtain ⟨c0, c1, c2, c3, c4, c5, c6, cf, hlt⟩ := hst.bcells
      have HKI := Lib.hid (HB.out.trans hki.below)
      clear c0 c1 c2 c3 c5 c6 cf hE hz hel hki hst hpot hrep heq
      go_wp2_with fail
      refine (cg _ (Below.refl _ _)).mono ?_
      rintro e w3 ⟨⟨v3, rfl, hv3⟩, b3⟩
      have HV := Lib.hid hv3
      have HB3 := Lib.hid (HKI.out.then b3)
      clear cg hv3 b3
      go_wp2
      go_ret
      exact ⟨⟨_, rfl, HV.out⟩, HB3.out⟩
theorem raw_any (s : ByteArray) (w : World) (htk : TkW w) (hs : s.size ≤ 1000) :
    Calls Tryz.prog 6 #[.string s] w fun e w' => (∃ v, e = .returned v ∧ NdAt w' v (rawI [] s.data.toList)) ∧ Below w.heap.size w w' := by
  have cp := parse_raw (w := w) (s := s) (D := []) (Or.inl ⟨rfl, rfl⟩) htk (by simp) hs
  clear htk
  go_enter Tryz.func6, Tryz.ntmps6
  go_wp2_with fail
  refine cp.mono ?_
  rintro e w2 ⟨⟨v, rfl, hv⟩, b⟩
  have HV := Lib.hid hv
  clear cp hv
  go_wp2
  go_ret
  exact ⟨⟨_, rfl, HV.out⟩, b⟩
end
end Go.Proofs.YteihmgcphbijhaaGreatDoor

namespace Go.Proofs.YteihmgcphbijhaaGreatDoor
open Go.RowKit
set_option linter.unusedSimpArgs false
set_option linter.unusedVariables false
theorem pot_go {C : Nat} (hC : 3 ≤ C) (E : Env) (D : List Dfn) (s : List UInt8) (htok : ∀ l : List UInt8, l ≠ [] → tokN E (nextL l).1 ≤ C * (nextL l).2) (hat : ∀ k x, E.atom k = some x → WrapD x) : ∀ (f i j : Nat) (l : List Ent), j ≤ i → j ≤ s.length → PotSt C j l → ∃ j', j' ≤ s.length ∧ PotSt C j' (inlGo E D s f i l)
  | 0, i, j, l, _, hj, h => ⟨j, hj, h⟩
  | f + 1, i, j, l, hji, hj, h => by
    unfold inlGo
    split
    · next hi =>
      have hne : s.drop i ≠ [] := by intro e; have := congrArg List.length e; simp at this; omega
      have hlen := next_len _ hne
      rw [List.length_drop] at hlen
      have ht := htok _ hne
      have hr := next_run_len (s.drop i)
      generalize nextL (s.drop i) = q at *
      obtain ⟨t, n⟩ := q
      dsimp only at *
      have hs := pot_step hC E D s i n t l hlen.1 ht (fun b k e => by subst e; exact hr b k n rfl) hat (h.less hji)
      exact pot_go hC E D s htok hat f _ (i + n) _ (by omega) (by omega) hs
    · exact ⟨j, hj, h⟩
theorem pot_nil (C : Nat) : PotSt C 0 [] := ⟨Nat.le_refl _, Nat.zero_le _, (by intro x hx; cases hx), wrapD_nil, (by intro img p sh hm; cases hm)⟩
theorem inl_siz {C : Nat} (hC : 3 ≤ C) (E : Env) (D : List Dfn) (s : List UInt8) (htok : ∀ l : List UInt8, l ≠ [] → tokN E (nextL l).1 ≤ C * (nextL l).2) (hat : ∀ k x, E.atom k = some x → WrapD x) : sizI (inlE E D s) ≤ C * s.length ∧ WrapD (inlE E D s) := by
  obtain ⟨j, hj, h⟩ := pot_go hC E D s htok hat s.length 0 0 [] (Nat.le_refl _) (Nat.zero_le _) (pot_nil C)
  unfold inlE
  refine ⟨?_, wrapD_group ?_⟩
  · refine Nat.le_trans (group_pot _) ?_
    rw [List.map_reverse, potI_reverse]
    exact Nat.le_trans h.pot (Nat.mul_le_mul_left _ hj)
  · rw [List.map_reverse]
    exact allI_rev h.wd
theorem raw_siz (D : List Dfn) (s : List UInt8) : sizI (rawI D s) ≤ 8 * s.length ∧ WrapD (rawI D s) :=
  inl_siz (by omega) rawE D s (fun l hl => next_tokN (E := rawE) (M := 0) (C := 8) (fun c => restL_len (fun k => Nat.zero_le _) c) (fun k x e => by cases e) (by omega) l hl) (fun k x e => by cases e)
theorem atm_is {D : List Dfn} {As : List Atm} {k : Int} {x : List Iln} (h : (atmE D As).atom k = some x) : ∃ n : Nat, ∃ hn : n < As.length, k = n ∧ x = ⟨12, 0, As[n].lb, [], []⟩ :: deepI (rawI D As[n].tx) := by
  unfold atmE at h
  dsimp only at h
  split at h
  · next hk =>
    have hn : k.toNat < As.length := by omega
    refine ⟨k.toNat, hn, by omega, ?_⟩
    injection h with h
    rw [← h, show As.getD k.toNat ⟨[], []⟩ = As[k.toNat] from by simp [List.getD, List.getElem?_eq_getElem hn]]
  · cases h
theorem atm_at (D : List Dfn) (As : List Atm) (n : Nat) (hn : n < As.length) : (atmE D As).atom (n : Int) = some (⟨12, 0, As[n].lb, [], []⟩ :: deepI (rawI D As[n].tx)) := by
  unfold atmE
  dsimp only
  rw [if_pos (by omega), show ((n : Int)).toNat = n from by omega, show As.getD n ⟨[], []⟩ = As[n] from by simp [List.getD, List.getElem?_eq_getElem hn]]
theorem atm_no (D : List Dfn) (As : List Atm) (n : Nat) (hn : ¬ n < As.length) : (atmE D As).atom (n : Int) = none := by
  unfold atmE
  dsimp only
  rw [if_neg (by omega)]
theorem atm_siz (D : List Dfn) (As : List Atm) (M : Nat) (hM : ∀ a ∈ As, a.tx.length ≤ M) (k : Int) (x : List Iln) (h : (atmE D As).atom k = some x) : sizI x ≤ 1 + 8 * M ∧ WrapD x := by
  obtain ⟨n, hn, rfl, rfl⟩ := atm_is h
  have h1 := (raw_siz D As[n].tx).1
  have h2 := hM _ (List.getElem_mem hn)
  refine ⟨?_, ?_⟩
  · rw [sizI_cons, sizI_deep]
    show 1 + 0 + _ ≤ _
    omega
  · intro y hy
    rcases List.mem_cons.1 hy with rfl | hy
    · rfl
    · exact wrapD_deep _ y hy
theorem atm_code (D : List Dfn) (As : List Atm) (M : Nat) (hM : ∀ a ∈ As, a.tx.length ≤ M) (c : List UInt8) : ((atmE D As).code c).length ≤ (1 + M) * c.length := by
  refine restL_len (fun k => ?_) c
  show (if 0 ≤ k ∧ k < As.length then (As.getD k.toNat ⟨[], []⟩).tx else []).length ≤ M
  split
  · next hk =>
    have hn : k.toNat < As.length := by omega
    rw [show As.getD k.toNat ⟨[], []⟩ = As[k.toNat] from by simp [List.getD, List.getElem?_eq_getElem hn]]
    exact hM _ (List.getElem_mem hn)
  · exact Nat.zero_le _
theorem atm_tok (D : List Dfn) (As : List Atm) (M : Nat) (hM : ∀ a ∈ As, a.tx.length ≤ M) (l : List UInt8) (hl : l ≠ []) : tokN (atmE D As) (nextL l).1 ≤ (8 + 8 * M) * (nextL l).2 :=
  next_tokN (M := M) (atm_code D As M hM) (fun k x e => by have := (atm_siz D As M hM k x e).1; omega) (by omega) l hl
end Go.Proofs.YteihmgcphbijhaaGreatDoor

namespace Go.Proofs.YteihmgcphbijhaaGreatDoor
open Go.RowKit
set_option linter.unusedSimpArgs false
set_option linter.unusedVariables false
theorem take_mem (s : ByteArray) (k : Nat) (h : k < s.size) (p : UInt8 → Bool) (ht : ∀ b ∈ s.data.toList.take k, p b = true) (hk : p s[k] = true) : ∀ b ∈ s.data.toList.take (k + 1), p b = true := by
  rw [List.take_succ_eq_append_getElem (by simpa using h)]
  intro b hb
  rcases List.mem_append.1 hb with hb | hb
  · exact ht b hb
  · rw [List.mem_singleton.1 hb]; exact hk
def TlLowRel (s : ByteArray) (v : Value) : Prop := ∃ k : Nat, v = .int .i64 k ∧ k ≤ s.size ∧ ∀ b ∈ s.data.toList.take k, lowB b = true
theorem low_yes {b : UInt8} (h : lowB b = true) : 97 ≤ (b.toNat : Int) ∧ (b.toNat : Int) ≤ 122 := (inR_iff _ _ _).1 h
theorem low_no {b : UInt8} (h : lowB b = false) : (b.toNat : Int) < 97 ∨ 122 < (b.toNat : Int) := by have := (inR_f _ _ _).1 h; omega
theorem tlEmpty_of (a : ByteArray) (h : a.size = 0) : a = ⟨#[]⟩ := by
  have : a.data.toList = [] := List.length_eq_zero_iff.1 (by rw [size_len']; exact h)
  rw [← Lib.mk_data a, this]
end Go.Proofs.YteihmgcphbijhaaGreatDoor

namespace Go.Proofs.YteihmgcphbijhaaGreatDoor
open Go.ChangeShapes Go.WideShapes Go.ChangeAt Go.RowKit
set_option linter.unusedSimpArgs false
set_option linter.unusedVariables false
section
variable {H : Type} {enc : TypeId × Value → H} {P : Program} {w : World} {base : Nat} {sp : Nat → Bool} {held : Bool}
/-- A struct of two texts that reads as these holds them, cell for cell. -/
theorem pair_of_struct {fuel : Nat} {t : TypeId} {fs : Array Field} {f0 f1 : Field} {cs : List Value} {a b : List UInt8} {p : List MemPlace} (ht : P.underlying t = some (.struct fs)) (hf : fs = #[f0, f1])
    (u0 : P.underlying f0.type = some .string) (u1 : P.underlying f1.type = some .string) (o0 : f0.offset = 0) (o1 : f1.offset = 1) (c0 : P.cellsOf f0.type = 1) (c1 : P.cellsOf f1.type = 1) (hct : P.cellsOf t = 2)
    (h : DataW.trod enc P w base sp held fuel t cs = some (.agg [.lit (.string a), .lit (.string b)], p)) : cs = [.string ⟨a.toArray⟩, .string ⟨b.toArray⟩] := by
  obtain ⟨xs, n, rfl, hx, hl, hxl, hall⟩ := DataW.trod_struct ht h
  have hxs : [.lit (.string a), .lit (.string b)] = xs.map (·.1) := by
    have := congrArg Prod.fst hx
    simpa using this
  subst hf
  obtain ⟨x0, x1, rfl⟩ : ∃ x0 x1, xs = [x0, x1] := by
    match xs, hxs with
    | [x0, x1], _ => exact ⟨x0, x1, rfl⟩
  simp only [List.map_cons, List.map_nil, List.cons.injEq, and_true] at hxs
  obtain ⟨e0, e1⟩ := hxs
  have g0 := hall 0 f0 rfl
  have g1 := hall 1 f1 rfl
  rw [o0, c0] at g0
  rw [o1, c1] at g1
  obtain ⟨s0, hc0, hx0, _⟩ := DataW.trod_string u0 g0
  obtain ⟨s1, hc1, hx1, _⟩ := DataW.trod_string u1 g1
  rw [hx0] at e0
  rw [hx1] at e1
  simp only [DataW.lit.injEq, Lit.string.injEq] at e0 e1
  subst e0; subst e1
  rw [hct] at hl
  obtain ⟨y0, y1, rfl⟩ : ∃ y0 y1, cs = [y0, y1] := by
    match cs, hl with
    | [y0, y1], _ => exact ⟨y0, y1, rfl⟩
  simp at hc0 hc1
  rw [hc0, hc1]
theorem array_length {fuel : Nat} {t e : TypeId} {n : Nat} {cs : List Value} {x : DataW H × List MemPlace} (ht : P.underlying t = some (.array n e))
    (h : DataW.trod enc P w base sp held fuel t cs = some x) : cs.length = P.cellsOf t := by
  cases fuel with
  | zero => simp [DataW.trod] at h
  | succ fuel =>
    simp only [DataW.trod, ht] at h
    split at h
    · rename_i hl
      simpa using hl
    · cases h
end
theorem named_data {H : Type} : (Rows.laid_bowdler_entity_named : DataW H) = .agg (namedL.map fun e => .agg [.lit (.string e.1), .lit (.string e.2)]) := rfl
theorem named_met {L : List (String × DataW Unit)} {W : World} (hm : ("bowdler/entity.named", (Rows.laid_bowdler_entity_named : DataW Unit)) ∈ L) (h : laidMet Tryz.prog L W) : NamedIs W := by
  obtain ⟨g, t, cs, fuel, p, hg, hty, hvar, hd⟩ := Lib.laidMet.reads h hm
  obtain rfl : g = 4 := Option.some.inj (hg.symm.trans (by kernel_rfl))
  obtain rfl : t = 222 := Option.some.inj (hty.symm.trans (by kernel_rfl))
  have hl := array_length Tryz.underlying222 hd
  rw [show Tryz.prog.cellsOf 222 = 46 from by kernel_rfl] at hl
  rw [named_data] at hd
  have hcs : cs = namedCells := by
    apply Array.ext'
    apply List.ext_getElem?
    intro i
    by_cases hi : i < 46
    · obtain ⟨fuel', d, q, hdi, he⟩ := Lib.array_elem Tryz.underlying222 hd (i / 2) (by omega)
      rw [show Tryz.prog.cellsOf 221 = 2 from by kernel_rfl] at he
      have hnl := namedL_length
      obtain ⟨x, hx⟩ : ∃ x, namedL[i / 2]? = some x := ⟨namedL[i / 2]'(by omega), List.getElem?_eq_getElem (by omega)⟩
      rw [List.getElem?_map, hx] at hdi
      simp only [Option.map_some, Option.some.injEq] at hdi
      subst hdi
      have hp := pair_of_struct Tryz.underlying221 rfl Tryz.underlying9 Tryz.underlying9 rfl rfl (by kernel_rfl) (by kernel_rfl) (by kernel_rfl) he
      have hc := congrArg (·[i % 2]?) hp
      simp only [List.getElem?_take, List.getElem?_drop] at hc
      rw [if_pos (by omega), show i / 2 * 2 + i % 2 = i from by omega] at hc
      rw [hc]
      have hflat : ∀ (l : List (List UInt8 × List UInt8)) (j : Nat) (x : List UInt8 × List UInt8) (r : Nat), l[j]? = some x → r < 2 → ((l.flatMap fun e => [Value.string ⟨e.1.toArray⟩, Value.string ⟨e.2.toArray⟩]))[2 * j + r]? = [Value.string ⟨x.1.toArray⟩, Value.string ⟨x.2.toArray⟩][r]? := by
        intro l
        induction l with
        | nil => intro j x r hj; simp at hj
        | cons y l ih =>
          intro j x r hj hr
          cases j with
          | zero =>
            simp at hj
            subst hj
            rw [List.flatMap_cons, List.getElem?_append_left (by simp; omega)]
            simp
          | succ j =>
            simp at hj
            rw [List.flatMap_cons, List.getElem?_append_right (by simp; omega)]
            rw [← ih j x r hj hr]
            simp
            congr 1
            omega
      have hfl := hflat namedL (i / 2) x (i % 2) hx (by omega)
      rw [show 2 * (i / 2) + i % 2 = i from by omega] at hfl
      rw [show namedCells.toList = namedL.flatMap fun e => [Value.string ⟨e.1.toArray⟩, Value.string ⟨e.2.toArray⟩] from rfl, hfl]
    · rw [List.getElem?_eq_none (by omega), List.getElem?_eq_none (by
        have : namedCells.toList.length = 46 := by decide +kernel
        omega)]
  subst hcs
  unfold World.var? at hvar
  rw [hg] at hvar
  simp only [Option.bind_some] at hvar
  split at hvar
  · rename_i cs' t' fr hh
    cases hvar
    exact ⟨_, _, hh⟩
  · cases hvar
end Go.Proofs.YteihmgcphbijhaaGreatDoor

namespace Go.Proofs.YteihmgcphbijhaaGreatDoor
open Go.ChangeShapes Go.WideShapes Go.ChangeAt Go.RowKit Go.Lib
set_option linter.unusedVariables false
section
variable {H : Type} {enc : TypeId × Value → H}
theorem handed_all {a : Assume} {C : Checked} {os : Os} {f : FuncId} {fn : Func} {s : ChangeSpec} {conds : List PathCond} {apart fresh handsOn again : Bool} {X : World → Array Value → Prop}
    (hX : ∀ (w w' : World) (args : Array Value), w.heap = w'.heap → X w args → X w' args)
    (own : ownKnob C.prog.godebug = none) (started : os.Started) (noInit : C.prog.inits.idxOf? f = none) (hfn : C.prog.funcs[f]? = some fn)
    (witness : ∃ (w : World) (tape : Tape) (i : Input), w.os = os ∧ (w.forCall tape i).Shaped C.prog ∧ i.vars = [] ∧ Input.okWide C.prog (w.forCall tape i) .any w.heap.size f i ∧
      ((s.pre enc C.prog fn conds apart (w.forCall tape i).memory i.args ∧ X (w.forCall tape i).memory i.args) ∧ sizedMet enc C.prog fn (OpenSpec.ofChange s) apart (w.forCall tape i).memory i.args) ∧ a.holds C.prog (lone (Frame.enter C.prog f i.args .normal) [] (w.forCall tape i)))
    (contract : ∀ (W : World) (base : Nat) (args : Array Value) (ds gs : List (DataW H)) (before : List MemPlace),
      (∀ (j : Nat) t v, fn.params[j]? = some t → args[j]? = some v → Value.okWide C.prog W .any base t v) →
      DataW.Whole enc C.prog fn.params.toList s.vars apart W args.toList ds gs before →
      conds.all (PathCond.test C.prog ⟨fn.params.toList, ds, s.plain.varTypes C.prog, gs⟩) = true →
      X W args → W.ShapedOpen C.prog →
      a.holds C.prog (lone (Frame.enter C.prog f args .normal) [] W) →
      Calls C.prog f args W fun e W' => ∃ v, e = .returned v ∧ s.post enc C.prog fn apart fresh handsOn again W args v W') :
    ReturnsInHanded a C os f .any (fun w args => (s.pre enc C.prog fn conds apart w args ∧ X w args) ∧ sizedMet enc C.prog fn (OpenSpec.ofChange s) apart w args) (s.post enc C.prog fn apart fresh handsOn again) := by
  refine returnsInHanded_of_calls own started noInit witness ?_
  intro w tape i _ hsh _ hok hpre hholds
  obtain ⟨_, _, _, fn', hfn', _, _, _, _, hval⟩ := hok
  have e : fn' = fn := Option.some.inj (hfn'.symm.trans hfn)
  subst e
  obtain ⟨⟨⟨ds, gs, before, hw, hc⟩, hx⟩, hz⟩ := hpre
  have hw' := DataW.Whole.of_heap (w' := w.forCall tape i) (by rfl) hw
  refine (contract (w.forCall tape i) w.heap.size i.args ds gs before hval hw' hc (hX _ _ _ (by rfl) hx) hsh hholds).mono fun e W' ⟨v, he, hp⟩ => ?_
  subst he
  exact ChangeSpec.post_blind hp
end
end Go.Proofs.YteihmgcphbijhaaGreatDoor

namespace Go.Proofs.YteihmgcphbijhaaGreatDoor
open Go.ChangeShapes Go.WideShapes Go.ChangeAt Go.RowKit
set_option linter.unusedSimpArgs false
set_option linter.unusedVariables false
def marksL : List (List UInt8) := [[33, 91], [91], [93]]
theorem marks_data {H : Type} : (Rows.laid_bowdler_token_marks : DataW H) = .agg (marksL.map fun e => .lit (.string e)) := rfl
theorem marks_cells : marksCells.toList = marksL.map fun e => Value.string ⟨e.toArray⟩ := rfl
theorem marks_met {L : List (String × DataW Unit)} {W : World} (hm : ("bowdler/token.marks", (Rows.laid_bowdler_token_marks : DataW Unit)) ∈ L) (h : laidMet Tryz.prog L W) : MarksIs W := by
  obtain ⟨g, t, cs, fuel, p, hg, hty, hvar, hd⟩ := Lib.laidMet.reads h hm
  obtain rfl : g = 0 := Option.some.inj (hg.symm.trans (by kernel_rfl))
  obtain rfl : t = 144 := Option.some.inj (hty.symm.trans (by kernel_rfl))
  have hl := array_length Tryz.underlying144 hd
  rw [show Tryz.prog.cellsOf 144 = 3 from by kernel_rfl] at hl
  rw [marks_data] at hd
  have hcs : cs = marksCells := by
    apply Array.ext'
    apply List.ext_getElem?
    intro i
    have hb : marksL.length = 3 := rfl
    by_cases hi : i < 3
    · obtain ⟨fuel', d, q, hdi, he⟩ := Lib.array_elem Tryz.underlying144 hd i hi
      rw [show Tryz.prog.cellsOf 9 = 1 from by kernel_rfl] at he
      obtain ⟨x, hx⟩ : ∃ x, marksL[i]? = some x := ⟨marksL[i]'(by omega), List.getElem?_eq_getElem (by omega)⟩
      rw [List.getElem?_map, hx] at hdi
      simp only [Option.map_some, Option.some.injEq] at hdi
      subst hdi
      obtain ⟨s0, hc0, hx0, _⟩ := DataW.trod_string Tryz.underlying9 he
      simp only [Prod.mk.injEq, DataW.lit.injEq, Lit.string.injEq] at hx0
      obtain ⟨hx0, _⟩ := hx0
      subst hx0
      have hc := congrArg (·[0]?) hc0
      simp only [List.getElem?_take, List.getElem?_drop] at hc
      rw [if_pos (by omega), show i * 1 + 0 = i from by omega] at hc
      rw [hc, marks_cells, List.getElem?_map, hx]
      simp
    · rw [List.getElem?_eq_none (by omega), List.getElem?_eq_none (by
        have : marksCells.toList.length = 3 := by decide +kernel
        omega)]
  subst hcs
  unfold World.var? at hvar
  rw [hg] at hvar
  simp only [Option.bind_some] at hvar
  split at hvar
  · rename_i cs' t' fr hh
    cases hvar
    exact ⟨_, _, hh⟩
  · cases hvar
end Go.Proofs.YteihmgcphbijhaaGreatDoor

namespace Go.Proofs.YteihmgcphbijhaaGreatDoor
open Go.ChangeShapes Go.WideShapes Go.ChangeAt Go.RowKit
set_option linter.unusedSimpArgs false
set_option linter.unusedVariables false
theorem tkwj_of {W : World} (h : laidMetH Tryz.prog Rows.inlineSpansRow.laid W) (hs : W.ShapedOpen Tryz.prog) : TkW W := by
  rw [MakeChecks.laidMetH_plain _ _ _ (by kernel_rfl)] at h
  exact ⟨named_met (by simp [Rows.inlineSpansRow]) h, marks_met (by simp [Rows.inlineSpansRow]) h, maxL_of hs⟩
end Go.Proofs.YteihmgcphbijhaaGreatDoor

namespace Go.Proofs.YteihmgcphbijhaaGreatDoor
open Go.RowKit Go.Maps Go.ChangeShapes
set_option linter.unusedSimpArgs false
set_option linter.unusedVariables false
set_option maxRecDepth 100000
theorem NdAt.at {w : World} {v : Value} {nd : List Iln} (h : NdAt w v nd) (hne : nd ≠ []) : ∃ b off c, v = .slice (some ⟨b, off, none⟩) nd.length c ∧ b < w.heap.size ∧
    ∀ k (hk : k < nd.length), w.cell? ⟨b, off + k * 5, none⟩ = some (.int .i64 nd[k].kd) ∧ w.cell? ⟨b, off + k * 5 + 1, none⟩ = some (.int .i64 nd[k].dp) ∧
      w.cell? ⟨b, off + k * 5 + 2, none⟩ = some (.string ⟨nd[k].txt.toArray⟩) ∧ w.cell? ⟨b, off + k * 5 + 3, none⟩ = some (.string ⟨nd[k].url.toArray⟩) ∧ w.cell? ⟨b, off + k * 5 + 4, none⟩ = some (.string ⟨nd[k].ttl.toArray⟩) := by
  obtain ⟨Av, cv, rfl, hi, _⟩ := h
  rcases hi.cells with h0 | ⟨b, off, e, hb, hc⟩
  · exact absurd h0 hne
  · subst e
    exact ⟨b, off, cv, rfl, hb, fun k hk => ⟨hc k hk 0 _ rfl, hc k hk 1 _ rfl, hc k hk 2 _ rfl, hc k hk 3 _ rfl, hc k hk 4 _ rfl⟩⟩
theorem NdAt.len_le {w : World} {v : Value} {nd : List Iln} (h : NdAt w v nd) : nd.length ≤ maxLen := by
  obtain ⟨Av, cv, rfl, hi, _⟩ := h
  have h1 := hi.le
  have h2 := hi.cap
  omega
/-- One node. -/
theorem NdAt.one {w : World} {v : Value} {x : Iln} (h : NdAt w v [x]) : ∃ b off c, v = .slice (some ⟨b, off, none⟩) 1 c ∧ b < w.heap.size ∧
    w.cell? ⟨b, off, none⟩ = some (.int .i64 x.kd) ∧ w.cell? ⟨b, off + 1, none⟩ = some (.int .i64 x.dp) ∧ w.cell? ⟨b, off + 2, none⟩ = some (.string ⟨x.txt.toArray⟩) ∧ w.cell? ⟨b, off + 3, none⟩ = some (.string ⟨x.url.toArray⟩) ∧ w.cell? ⟨b, off + 4, none⟩ = some (.string ⟨x.ttl.toArray⟩) := by
  obtain ⟨b, off, c, e, hb, hc⟩ := h.at (by simp)
  have h0 := hc 0 (by simp)
  simp only [Nat.zero_mul, Nat.add_zero, List.getElem_cons_zero] at h0
  exact ⟨b, off, c, e, hb, h0⟩
set_option maxHeartbeats 4000000 in
theorem alive15_any (w : World) (hw : TkW w) : Calls Tryz.prog 5 #[] w fun e w' => e = .returned (.bool true) ∧ Below w.heap.size w w' := by
  have cr := raw_any ⟨#[91, 42, 97, 42, 93, 40, 47, 98, 41]⟩ w hw (by decide)
  rw [show rawI [] (⟨#[91, 42, 97, 42, 93, 40, 47, 98, 41]⟩ : ByteArray).data.toList = [⟨5, 0, [], [47, 98], []⟩, ⟨3, 1, [], [], []⟩, ⟨1, 2, [97], [], []⟩] from by decide +kernel] at cr
  clear hw
  go_enter Tryz.func5, Tryz.ntmps5
  go_wp2_with fail
  refine cr.mono ?_
  rintro e w1 ⟨⟨v, rfl, hv⟩, b1⟩
  obtain ⟨b, off, c, rfl, hb, hc⟩ := hv.at (by simp)
  obtain ⟨c0, c1, c2, c3, c4⟩ := hc 0 (by simp)
  obtain ⟨d0, d1, d2, d3, d4⟩ := hc 1 (by simp)
  obtain ⟨e0, e1, e2, e3, e4⟩ := hc 2 (by simp)
  have HB := Lib.hid b1
  simp only [List.getElem_cons_zero, List.getElem_cons_succ, Nat.zero_mul, Nat.add_zero, Nat.one_mul, List.length_cons, List.length_nil] at c0 c1 c2 c3 c4 d0 d1 d2 d3 d4 e0 e1 e2 e3 e4 ⊢
  clear cr hv hc b1
  go_wp2
  go_ret
  exact ⟨rfl, HB.out⟩
end Go.Proofs.YteihmgcphbijhaaGreatDoor
