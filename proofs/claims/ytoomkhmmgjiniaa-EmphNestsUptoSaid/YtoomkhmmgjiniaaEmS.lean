/-
  Package emph: tooMany, Group.
-/
import Derived.Test.YtoomkhmmgjiniaaEmO
import Derived.Test.YtoomkhmmgjiniaaEmL
namespace Go.Proofs.Ytoomkhmmgjiniaa
open Go.RowKit Go.Maps Go.ChangeShapes
set_option linter.unusedSimpArgs false
set_option linter.unusedVariables false
set_option maxRecDepth 100000

/-- An item, and its slice of nodes. -/
def itC (x : Itm × Value) : List Value := [.int .u8 x.1.sg.toNat, .int .i64 x.1.ff, .bool x.1.op, .bool x.1.cl, x.2]
theorem itC_length (x : Itm × Value) : (itC x).length = 5 := rfl
def sumN : List (Itm × Value) → Int
  | [] => 0
  | x :: X => (if x.1.sg = 0 ∨ x.1.ff < 0 then 0 else x.1.ff) + sumN X
theorem sumN_nonneg : ∀ X, 0 ≤ sumN X
  | [] => Int.le_refl _
  | x :: X => by
    have := sumN_nonneg X
    unfold sumN
    split <;> omega

set_option maxHeartbeats 4000000 in
theorem tooMany_any (A : Option Addr) (cap : Nat) (X : List (Itm × Value)) (w : World) (hrow : EltsAt w itC 5 A cap X) (hv : ∀ x ∈ X, ∃ Av cv, x.2 = Value.slice Av x.1.nd.length cv) (hs : sumN X ≤ 2147483647) (hn : X.length ≤ 100000) :
    Calls Try.prog 11 #[.slice A X.length cap] w fun e w' => e = .returned (.bool false) ∧ Below w.heap.size w w' := by
  go_enter Try.func11, Try.ntmps11
  go_wp2_with fail
  go_loopw [3, 8] (fun l i wr => ∃ (k : Nat) (L : Int), i = .int .i64 k ∧ k ≤ X.length ∧ l = .int .i64 L ∧ sumN (X.drop k) ≤ L ∧ L ≤ 2147483647 ∧ Below w.heap.size w wr) (fun _ i _ => X.length - (intOf i).toNat)
  case atStart => exact ⟨0, 2147483647, rfl, Nat.zero_le _, rfl, by rw [List.drop_zero]; exact hs, Int.le_refl _, Below.refl _ _⟩
  case round =>
    obtain ⟨k, L, rfl, hk, rfl, hL, hLm, hbw⟩ := hrel
    by_cases hp : k < X.length
    · obtain ⟨b, off, e, hb, hc⟩ := (EltsAt.below hrow hbw).at hp
      subst e
      have hd : X.drop k = X[k] :: X.drop (k + 1) := List.drop_eq_getElem_cons hp
      rw [hd] at hL
      clear hd
      have hvx := hv _ (List.getElem_mem hp)
      generalize X[k] = x at *
      obtain ⟨⟨sg, n, ff, op, cl, nd⟩, lv⟩ := x
      have c0 : wr.cell? ⟨b, off + k * 5, none⟩ = some (.int .u8 sg.toNat) := hc 0 _ rfl
      have c1 : wr.cell? ⟨b, off + k * 5 + 1, none⟩ = some (.int .i64 ff) := hc 1 _ rfl
      have c2 : wr.cell? ⟨b, off + k * 5 + 2, none⟩ = some (.bool op) := hc 2 _ rfl
      have c3 : wr.cell? ⟨b, off + k * 5 + 3, none⟩ = some (.bool cl) := hc 3 _ rfl
      have c4 : wr.cell? ⟨b, off + k * 5 + 4, none⟩ = some lv := hc 4 _ rfl
      have hnn := sumN_nonneg (X.drop (k + 1))
      unfold sumN at hL
      dsimp only at *
      obtain ⟨Av, cv, rfl⟩ := hvx
      have HL := Lib.hid hL
      have HN := Lib.hid hnn
      obtain ⟨x0, x1, x2, x3, x4⟩ := box5 wr (.int .u8 sg.toNat) (.int .i64 ff) (.bool op) (.bool cl) (.slice Av nd.length cv) 26
      have HR := Lib.hid hrow
      have HB := Lib.hid (hbw.alloc hbw.size (.cells #[.int .u8 sg.toNat, .int .i64 ff, .bool op, .bool cl, .slice Av nd.length cv] 26))
      clear hc hL hnn hrow hbw
      by_cases h0 : sg = 0
      · subst h0
        go_wp2
        go_roundw
        case rel => exact ⟨k + 1, L, by go_num, by omega, rfl, by have := HL.out; rw [if_pos (Or.inl rfl)] at this; omega, hLm, HB.out⟩
        case measure => simp [intOf]; omega
      · have hsn : ¬ ((sg.toNat : Int) = 0) := fun h => h0 (UInt8.toNat_inj.1 (by simpa using h))
        have hsb : ((sg.toNat : Int) == 0) = false := by simpa using hsn
        by_cases h1 : ff < 0
        · go_wp2
          go_roundw
          case rel => exact ⟨k + 1, L, by go_num, by omega, rfl, by have := HL.out; rw [if_pos (Or.inr h1)] at this; omega, hLm, HB.out⟩
          case measure => simp [intOf]; omega
        · have h2 : ff ≤ L := by
            have := HL.out
            rw [if_neg (by simp [h0, h1])] at this
            have := HN.out
            omega
          have hw : IntKind.i64.wrap (L - ff) = L - ff := IntWalk.i64_in _ (by omega)
          go_wp2
          go_roundw
          case rel => exact ⟨k + 1, L - ff, by go_num, by omega, by go_num, by have := HL.out; rw [if_neg (by simp [h0, h1])] at this; omega, by omega, HB.out⟩
          case measure => simp [intOf]; omega
    · obtain rfl : k = X.length := by omega
      go_wp2
      go_ret
      exact ⟨rfl, hbw⟩

/-! ### how much is rendered -/
theorem textI_deepBy (d : Int) (l : List Iln) : textI (deepBy d l) = textI l := by
  unfold textI deepBy
  rw [List.flatMap_map]
  rfl
theorem textI_downs (d : Int) (ks : List Int) (hk : ∀ z ∈ ks, z = 3 ∨ z = 4) : textI (downs d ks) = [] := by
  induction ks generalizing d with
  | nil => rfl
  | cons k ks ih =>
    have h1 := ih (d + 1) (fun z hz => hk z (List.mem_cons_of_mem _ hz))
    unfold downs
    rw [show textI (⟨k, IntKind.i64.wrap d, [], [], []⟩ :: downs (d + 1) ks) = ilText ⟨k, IntKind.i64.wrap d, [], [], []⟩ ++ textI (downs (d + 1) ks) from rfl, h1]
    rcases hk k (List.mem_cons_self ..) with rfl | rfl <;> rfl
theorem ren_bound : ∀ (ps : List Pc) (i : Nat) (d : Int), (∀ p ∈ ps, ∀ z ∈ p.bg, z = 3 ∨ z = 4) → (ren d (evF i ps)).length + (textI (ren d (evF i ps))).length ≤ potP ps
  | [], i, d, _ => by simp [evF, ren, textI, potP]
  | p :: ps, i, d, h => by
    have e : potP (p :: ps) = pcN p + potP ps := by simp [potP]
    have hb := h p (List.mem_cons_self ..)
    have ih := fun d' => ren_bound ps (i + 1) d' (fun q hq => h q (List.mem_cons_of_mem _ hq))
    rw [e]
    by_cases hs : p.it.sg = 0
    · have := ih d
      have h2 : pcN p = p.it.nd.length + (textI p.it.nd).length := by simp [pcN, itN, hs]
      rw [ren_nodes hs, textI_append, textI_deepBy, List.length_append, List.length_append, deepBy_is, List.length_map, h2]
      omega
    · have := ih (d - p.en + p.bg.length)
      have h2 : pcN p = 1 + p.it.n.toNat + p.bg.length := by simp [pcN, itN, hs]
      rw [ren_row hs, textI_append, textI_append, textI_downs _ _ (fun z hz => hb z (List.mem_reverse.1 hz)), List.length_append, List.length_append, List.length_append, downs_length, List.length_reverse, List.append_nil, h2]
      have h3 : (rowW (d - p.en) p.it).length + (textI (rowW (d - p.en) p.it)).length ≤ 1 + p.it.n.toNat := by
        unfold rowW
        split
        · simp [textI, wordsI, ilText]
        · simp [textI]
      omega

theorem List.le_sum_of_mem_nat {l : List Nat} {a : Nat} (h : a ∈ l) : a ≤ l.sum := by
  induction l with
  | nil => cases h
  | cons b l ih =>
    rw [List.sum_cons]
    rcases List.mem_cons.1 h with rfl | h
    · omega
    · have := ih h
      omega
theorem ownsRow_base {w : World} {B B' : Nat} {e : TypeId} {size n : Nat} {v : Value} {xs : List Value} (h : w.ownsRow B e size v n xs) (hB : B' ≤ B) : w.ownsRow B' e size v n xs := by
  refine ⟨h.1, ?_⟩
  rcases h.2 with hn | ⟨g, cap, cur, rfl, hb, rest⟩
  · exact .inl hn
  · exact .inr ⟨g, cap, cur, rfl, Nat.le_trans hB hb, rest⟩

/-! ### Group -/
theorem infoPc : (Try.prog.info? 57).map (fun i => (i.zero.isSome, i.size, i.bytes)) = some (true, 8, 88) := by kernel_rfl
theorem infoPc' : ∃ i z, Try.prog.info? 57 = some i ∧ i.zero = some z ∧ i.size = 8 ∧ i.bytes = 88 := by
  have h := infoPc
  cases hi : Try.prog.info? 57 with
  | none => rw [hi] at h; cases h
  | some i =>
    rw [hi] at h
    have h1 : (i.zero.isSome, i.size, i.bytes) = (true, 8, 88) := Option.some.inj h
    injection h1 with h2 h3
    injection h3 with h4 h5
    obtain ⟨z, hz⟩ := Option.isSome_iff_exists.1 h2
    exact ⟨i, z, rfl, hz, h4, h5⟩
set_option maxHeartbeats 8000000 in
theorem group_any (X : List (Itm × Value)) (A : Option Addr) (cap : Nat) (w : World) (hrow : EltsAt w itC 5 A cap X) (hv : ∀ x ∈ X, ∃ Av cv, x.2 = Value.slice Av x.1.nd.length cv ∧ InlsAt w Av cv x.1.nd) (hnf : ∀ x ∈ X, x.1.n = x.1.ff ∧ x.1.ff ≤ 2147483647)
    (hs : sumN X ≤ 2147483647) (hlen : X.length ≤ 1000) (hw : WrapD (allI (X.map Prod.fst))) (hpot : potI (X.map Prod.fst) ≤ 100000000) :
    Calls Try.prog 7 #[.slice A X.length cap] w fun e w' => (∃ v, e = .returned v ∧ w'.ownsRow w.heap.size 30 5 v (groupI (X.map Prod.fst)).length (flt ilC (groupI (X.map Prod.fst)))) ∧ Below w.heap.size w w' := by
  have ct := tooMany_any A cap X w hrow (fun x hx => by obtain ⟨Av, cv, h, _⟩ := hv x hx; exact ⟨Av, cv, h⟩) hs (by omega)
  go_enter Try.func7, Try.ntmps7
  go_wp2_with fail
  refine ct.mono ?_
  rintro e w1 ⟨rfl, b1⟩
  obtain ⟨i0, z0, hi, hz0, hz1, hz2⟩ := infoPc'
  obtain ⟨w2, hmk, ho2, hg2⟩ := run_make_own (P := Try.prog) w1 w1.heap.size 37 57 i0 z0 8 Try.underlying37 hi hz0 hz1 .i64 .i64 X.length (by rw [hz2]; omega) (by unfold maxLen; omega) (Nat.le_refl _)
  have hmm := @run_makeMap Try.prog
  have HO2 := Lib.hid ho2
  have HG2 := Lib.hid hg2
  have HB1 := Lib.hid b1
  clear ho2 hg2 b1
  go_wp2_with fail
  have hB2 : Below w.heap.size w ((w2.alloc (.map #[] 0)).alloc (.cells #[.slice (some ⟨w1.heap.size, 0, none⟩) 0 X.length, .slice none 0 0, .map (some w2.heap.size)] 41)) :=
    ((HB1.out.grown HG2.out HB1.out.size (fun r e => by cases e)).alloc (by have := HB1.out.size; have := HG2.out.size; omega) _).alloc (by have := HB1.out.size; have := HG2.out.size; simp; omega) _
  have hF0 : Fam (w2.alloc (.map #[] 0)) (w2.heap.size + 1) w2.heap.size 0 (.map []) [(.slice none 0 0, natI [])] :=
    ⟨fun x hx => by rw [List.mem_singleton] at hx; subst hx; exact World.ownsInts_nil _ _ _ _, by simp, World.ownsGroups_made w2 _ _ _ _, World.Shuns_made w2 _⟩
  have hP0 : PrSt ((w2.alloc (.map #[] 0)).alloc (.cells #[.slice (some ⟨w1.heap.size, 0, none⟩) 0 X.length, .slice none 0 0, .map (some w2.heap.size)] 41)) (w2.heap.size + 1) w1.heap.size w2.heap.size X.length 0 (.map []) [] [] [] (.slice none 0 0) :=
    ⟨heap_alloc2_new _ _ _, (HO2.out.alloc _).alloc _, hF0.below ((Below.refl _ _).alloc (Nat.le_refl _) _), KD.new, by simp, by omega⟩
  have hT0 : PtSt (X.map Prod.fst) (X.map Prod.fst) w (w2.heap.size + 1) w1.heap.size w2.heap.size X.length [] [] ((w2.alloc (.map #[] 0)).alloc (.cells #[.slice (some ⟨w1.heap.size, 0, none⟩) 0 X.length, .slice none 0 0, .map (some w2.heap.size)] 41)) :=
    ⟨⟨0, .map [], .slice none 0 0, hP0, by simp⟩, run_start _, by simp⟩
  have HT0 := Lib.hid hT0
  have HB2 := Lib.hid hB2
  have hz1 : w.heap.size ≤ w1.heap.size := HB1.out.size
  have hz2 : w1.heap.size ≤ w2.heap.size := HG2.out.size
  clear hT0 hP0 hF0 hB2 hmk hmm HO2
  generalize hwW : (w2.alloc (.map #[] 0)).alloc (.cells #[.slice (some ⟨w1.heap.size, 0, none⟩) 0 X.length, .slice none 0 0, .map (some w2.heap.size)] 41) = w3 at *
  clear hwW
  generalize hbe : w2.heap.size + 1 = b at *
  have hbz : w.heap.size ≤ b := by omega
  clear hbe
  generalize w2.heap.size = bm at *
  generalize w1.heap.size = bp at *
  clear HG2 HB1
  have HR := Lib.hid hrow
  have HV := Lib.hid hv
  have HNF := Lib.hid hnf
  have HW := Lib.hid hw
  have HPOT := Lib.hid hpot
  clear hrow hv hnf hw hpot hs ct
  go_loopw [15] (fun i wr => ∃ (k : Nat) (Qs : List Pm) (ops : List Nat), i = .int .i64 k ∧ k ≤ X.length ∧ PtSt (X.map Prod.fst) ((X.drop k).map Prod.fst) w b bp bm X.length Qs ops wr ∧ Qs.length = k ∧ Below w.heap.size w wr) (fun i _ => X.length - (intOf i).toNat)
  case atStart => exact ⟨0, [], [], rfl, Nat.zero_le _, HT0.out, rfl, HB2.out⟩
  case round =>
    obtain ⟨k, Qs, ops, rfl, hk, hT, hQ, hbw⟩ := hrel
    by_cases hp : k < X.length
    · obtain ⟨g, off, e, hg, hc⟩ := (EltsAt.below HR.out hbw).at hp
      subst e
      have hd : X.drop k = X[k] :: X.drop (k + 1) := List.drop_eq_getElem_cons hp
      have hvx := HV.out _ (List.getElem_mem hp)
      have hnx := HNF.out _ (List.getElem_mem hp)
      rw [hd, List.map_cons] at hT
      clear hd
      generalize X[k] = x at *
      obtain ⟨⟨sg, n, ff, op, cl, nd⟩, lv⟩ := x
      obtain ⟨Av, cv, elv, hil⟩ := hvx
      obtain ⟨enf, hff⟩ := hnx
      dsimp only at *
      subst elv enf
      have c0 : wr.cell? ⟨g, off + k * 5, none⟩ = some (.int .u8 sg.toNat) := hc 0 _ rfl
      have c1 : wr.cell? ⟨g, off + k * 5 + 1, none⟩ = some (.int .i64 n) := hc 1 _ rfl
      have c2 : wr.cell? ⟨g, off + k * 5 + 2, none⟩ = some (.bool op) := hc 2 _ rfl
      have c3 : wr.cell? ⟨g, off + k * 5 + 3, none⟩ = some (.bool cl) := hc 3 _ rfl
      have c4 : wr.cell? ⟨g, off + k * 5 + 4, none⟩ = some (.slice Av nd.length cv) := hc 4 _ rfl
      obtain ⟨x0, x1, x2, x3, x4⟩ := box5 wr (.int .u8 sg.toNat) (.int .i64 n) (.bool op) (.bool cl) (.slice Av nd.length cv) 26
      have hbA := (Below.refl _ wr).alloc (Nat.le_refl _) (.cells #[.int .u8 sg.toNat, .int .i64 n, .bool op, .bool cl, .slice Av nd.length cv] 26)
      have cp := put_any (B := w.heap.size) (hT.below hbA) hff hil (by omega) ⟨by omega, hbz, by have := hbw.size; simp; omega, by omega⟩
      rw [hQ] at cp
      have HBW := Lib.hid (hbw.trans (hbA.mono hbw.size))
      clear hc hT hbA hbw
      go_wp2_with fail
      refine cp.mono ?_
      rintro e w5 ⟨rfl, ⟨Qs', ops', hT', hQ'⟩, hkb⟩
      have HB5 := Lib.hid (HBW.out.trans hkb.below)
      have HT' := Lib.hid hT'
      clear hT' hkb cp
      go_wp2
      go_roundw
      case rel => exact ⟨k + 1, Qs', ops', by go_num, by omega, HT'.out, hQ', HB5.out⟩
      case measure => simp [intOf]; omega
    · obtain rfl : k = X.length := by omega
      rw [List.drop_length, List.map_nil] at hT
      obtain ⟨nn, D, ov, hPS, _⟩ := hT.st
      have hrun := hT.run
      have hbds := hT.bds
      have hpt : potP (Qs.map Prod.fst) ≤ 100000000 := by
        have h1 := hrun.pt
        have h2 := HPOT.out
        simp only [potI, List.map_nil, List.sum_nil] at h1 h2
        omega
      have hrb := ren_bound (Qs.map Prod.fst) 0 0 (fun p hp z hz => by
        obtain ⟨x, hx, rfl⟩ := List.mem_map.1 hp
        exact (hbds x hx).kd z hz)
      have cn := nodes_any hPS hbds hbw (by omega) (fun x hx hs0 => by
        have h1 : pcN x.1 ≤ potP (Qs.map Prod.fst) := List.le_sum_of_mem_nat (List.mem_map.2 ⟨x.1, List.mem_map.2 ⟨x, hx, rfl⟩, rfl⟩)
        have h2 : pcN x.1 = x.1.it.nd.length + (textI x.1.it.nd).length := by simp [pcN, itN, hs0]
        omega)
      have hre := run_end hrun HW.out
      have HRB := Lib.hid hrb
      have HRE := Lib.hid hre
      have HBW := Lib.hid hbw
      have HPT := Lib.hid hpt
      clear hT hPS hrun hbds hrb hre hbw hpt
      generalize ren 0 (evF 0 (Qs.map Prod.fst)) = Rn at *
      go_wp2_with fail
      refine cn.mono ?_
      rintro e w5 ⟨⟨v5, rfl, ho5⟩, b5⟩
      obtain ⟨A5, c5, rfl, h5⟩ := EltsAt.own ilC_length ho5
      have cm := merge_any A5 c5 Rn w5 h5 (by have := HRB.out; have := HPT.out; omega) (by have := HRB.out; have := HPT.out; omega)
      have HB5 := Lib.hid (HBW.out.trans (b5.mono HBW.out.size))
      clear ho5 h5 b5 cn
      go_wp2_with fail
      refine cm.mono ?_
      rintro e w6 ⟨v6, rfl, ho6, b6⟩
      rw [HRE.out] at ho6
      have HO6 := Lib.hid ho6
      have HB6 := Lib.hid (HB5.out.trans (b6.mono HB5.out.size))
      have hs5 := HB5.out.size
      clear ho6 b6 cm
      obtain ⟨A6, c6, rfl, _⟩ := own_form HO6.out
      go_wp2
      go_ret
      refine ⟨⟨_, rfl, ?_⟩, HB6.out⟩
      exact ownsRow_base HO6.out hs5

end Go.Proofs.Ytoomkhmmgjiniaa
