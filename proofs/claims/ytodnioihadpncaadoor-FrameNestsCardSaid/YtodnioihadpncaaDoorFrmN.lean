/-
  FrameNests: divisions in one another are closed from within; what lies in each is one deeper; the law's walk.
-/
import Derived.Test.YtodnioihadpncaaDoorFrmI
namespace Go.Proofs.YtodnioihadpncaaDoor
open Go.RowKit
set_option linter.unusedSimpArgs false
set_option linter.unusedVariables false
set_option maxRecDepth 100000

def nestLn : Txt := [58, 58, 58, 123, 108, 125]
def nestD (m k : Nat) : Prt := ⟨k, true, [108], decide (k < m), []⟩
theorem nest_opens : opensL nestLn = some [108] := by decide
theorem nest_open (k : Nat) : parseF ([], []) (List.replicate k nestLn) = ((List.range k).map (nestD k), List.range k) := by
  have h : ∀ m k, k ≤ m → parseF ([], []) (List.replicate k nestLn) = ((List.range k).map (nestD m), List.range k) := by
    intro m k
    induction k with
    | zero => intro _; rfl
    | succ k ih =>
      intro hk
      rw [List.replicate_succ', parseF_append, ih (by omega), parseF_one]
      unfold stepP
      rw [nest_opens]
      dsimp only
      rw [List.length_range, List.length_map, List.length_range, List.range_succ, List.map_append]
      have : nestD m k = ⟨k, true, [108], true, []⟩ := by unfold nestD; simp; omega
      rw [List.map_singleton, this]
  exact h k k (Nat.le_refl _)
theorem no_colon {t : Txt} (h : ∀ b ∈ t, b ≠ 58) : opensL t = none ∧ closesL t = false := by
  constructor
  · unfold opensL
    have : divB.isPrefixOf t = false := by
      cases hp : divB.isPrefixOf t with
      | false => rfl
      | true =>
        have := prefix_of hp
        exact absurd rfl (h 58 (by rw [this]; simp [divB]))
    rw [this]; rfl
  · cases hc : closesL t with
    | false => rfl
    | true =>
      obtain ⟨k, e⟩ := closes_some hc
      exact absurd rfl (h 58 (by rw [e]; simp [divE]))
theorem nest_text (n : Nat) (t : Txt) (h : ∀ b ∈ t, b ≠ 58) : stepP ((List.range n).map (nestD n), List.range n) t = ((List.range n).map (nestD n) ++ [⟨n, false, [], false, [t]⟩], List.range n) := by
  obtain ⟨h1, h2⟩ := no_colon h
  unfold stepP
  rw [h1, h2]
  dsimp only
  rw [if_neg (by simp), List.length_range]
  cases n with
  | zero => rfl
  | succ n =>
    rw [addLn_new (p := nestD (n + 1) n) _ _ (by rw [List.range_succ, List.map_append]; simp) (Or.inl rfl)]
theorem nest_close (n : Nat) (R : Prt) : ∀ j, j ≤ n → parseF ((List.range n).map (nestD n) ++ [R], List.range n) (ends j) = ((List.range n).map (nestD (n - j)) ++ [R], List.range (n - j))
  | 0, _ => rfl
  | j + 1, h => by
    rw [ends_succ, parseF_append, nest_close n R j (by omega), parseF_one]
    obtain ⟨m, hm⟩ : ∃ m, n - j = m + 1 := ⟨n - j - 1, by omega⟩
    rw [hm, show n - (j + 1) = m from by omega]
    unfold stepP
    rw [opens_divE]
    dsimp only
    rw [if_pos ⟨by simp [List.range_succ], closes_divE⟩, List.range_succ, List.getLast?_concat, List.dropLast_concat]
    simp only [Option.getD_some]
    congr 1
    apply List.ext_getElem?
    intro i
    unfold shut
    rw [List.getElem?_modify]
    by_cases hi : i < n
    · rw [List.getElem?_append_left (by simpa using hi), List.getElem?_append_left (by simpa using hi), List.getElem?_map, List.getElem?_map, List.getElem?_range hi]
      by_cases e : m = i
      · subst e
        simp [nestD]
      · simp [nestD, e]
        omega
    · rw [List.getElem?_append_right (by simp; omega), List.getElem?_append_right (by simp; omega)]
      have : ¬ m = i := by omega
      simp [this]
/-- The parts of divisions in one another. -/
theorem nest_parse (n c : Nat) (hc : c ≤ n) (t : Txt) (h : ∀ b ∈ t, b ≠ 58) :
    parseL (List.replicate n nestLn ++ [t] ++ ends c) = (List.range n).map (nestD (n - c)) ++ [⟨n, false, [], false, [t]⟩] := by
  unfold parseL
  rw [parseF_append, parseF_append, nest_open, parseF_one, nest_text n t h, nest_close n _ c hc]

def NByteRel (s : ByteArray) (w : World) (i : Value) (wr : World) : Prop := ∃ k : Nat, i = .int .i64 k ∧ k ≤ s.size ∧ (∀ m (h : m < s.size), m < k → s[m].toNat ≠ 58) ∧ wr = w
def Rep0 (B : Nat) (l : Txt) (n : Nat) (w : World) (v i : Value) (wr : World) : Prop :=
  ∃ k : Nat, i = .int .i64 k ∧ k ≤ n ∧ B ≤ wr.heap.size ∧ wr.ownsRow B 9 1 v k (strs (List.replicate k l)) ∧ Below B w wr
theorem strs_rep0 (l : Txt) (k : Nat) : strs (List.replicate k l) ++ [Value.string ⟨l.toArray⟩] = strs (List.replicate (k + 1) l) := by
  rw [List.replicate_succ', strs_append (List.replicate k l)]; rfl
/-- A list that is made of one line, again and again. -/
def RepRel (B : Nat) (pre : List Txt) (m : Nat) (l : Txt) (n : Nat) (w : World) (v i : Value) (wr : World) : Prop :=
  ∃ k : Nat, i = .int .i64 k ∧ k ≤ n ∧ B ≤ wr.heap.size ∧ wr.ownsRow B 9 1 v (m + k) (strs (pre ++ List.replicate k l)) ∧ Below B w wr
theorem strs_rep (pre : List Txt) (l : Txt) (k : Nat) : strs (pre ++ List.replicate k l) ++ [Value.string ⟨l.toArray⟩] = strs (pre ++ List.replicate (k + 1) l) := by
  rw [List.replicate_succ', ← List.append_assoc, strs_append (pre ++ List.replicate k l)]; rfl
def NPartRel (n : Nat) (w : World) (i : Value) (wr : World) : Prop := ∃ k : Nat, i = .int .i64 k ∧ k ≤ n ∧ wr = w

set_option maxHeartbeats 8000000 in
theorem frameNests_short (w : World) (hml : MaxL w) (n c : Nat) (a2 : ByteArray) (h1 : 1 ≤ n) (h15 : n ≤ 15) (hc : c ≤ n) (h40 : a2.size ≤ 40) :
    Calls Tryd.prog 4 #[.int .i64 n, .int .i64 c, .string a2] w fun e w' => e = .returned (.bool true) ∧ Below w.heap.size w w' := by
  obtain ⟨i0, hi, hz0, hz1, hz2⟩ := info_parts infoString
  have HML := Lib.hid hml
  clear hml
  go_enter Tryd.func4, Tryd.ntmps4
  go_wp2_with fail
  refine (alive6_any _ HML.out).mono ?_
  rintro e w1 ⟨rfl, b1⟩
  go_wp2_with fail
  go_loopw [7] (fun i wr => NByteRel a2 w1 i wr) (fun i _ => a2.size - (intOf i).toNat)
  case atStart => exact ⟨0, rfl, Nat.zero_le _, fun m _ hm => absurd hm (Nat.not_lt_zero _), rfl⟩
  case round =>
    obtain ⟨k, rfl, hk, hby, hwe⟩ := hrel
    have hwe := hwe.symm
    subst hwe
    have HBy := Lib.hid hby
    clear hby
    by_cases hp : k < a2.size
    · by_cases h58 : a2[k].toNat = 58
      · have f1 : ((a2[k].toNat : Int) == 58) = true := by simp; omega
        clear h58
        go_wp2
        go_ret
        exact ⟨rfl, b1⟩
      · have f1 : ((a2[k].toNat : Int) == 58) = false := by simp; omega
        by_cases h32 : a2[k].toNat < 32
        · have f2 : decide ((a2[k].toNat : Int) < 32) = true := by simp; omega
          clear h58 h32
          go_wp2
          go_ret
          exact ⟨rfl, b1⟩
        · have f2 : decide ((a2[k].toNat : Int) < 32) = false := by simp; omega
          have H58 := Lib.hid h58
          clear h58 h32
          go_wp2
          refine ⟨⟨k + 1, by go_num, by omega, fun q hq hq2 => ?_, rfl⟩, by simp [intOf]; omega⟩
          by_cases e : q = k
          · subst e; exact H58.out
          · exact HBy.out q hq (by omega)
    · obtain rfl : k = a2.size := by omega
      have hall : ∀ b ∈ a2.data.toList, b ≠ 58 := by
        intro b hb e
        obtain ⟨m, hm, rfl⟩ := List.mem_iff_getElem.1 hb
        have hm2 : m < a2.size := by simpa using hm
        have := HBy.out m hm2 hm2
        have e2 : a2.data.toList[m] = a2[m] := rfl
        rw [e2] at e
        rw [e] at this
        exact this rfl
      have hnp := nest_parse n c hc a2.data.toList hall
      have HNP := Lib.hid hnp
      clear hall hnp HBy
      go_wp2_with fail
      go_loopw [8, 9] (fun v i w2 => Rep0 w1.heap.size nestLn n w1 v i w2) (fun _ i _ => n - (intOf i).toNat)
      case atStart => exact ⟨0, rfl, Nat.zero_le _, Nat.le_refl _, World.ownsRow_nil _ _ _ _, Below.refl _ _⟩
      case round =>
        obtain ⟨k, rfl, hk, hBr, hown, hbw⟩ := hrel
        by_cases hp2 : k < n
        · have hnw := cells_one wr (.string ⟨#[58, 58, 58, 123, 108, 125]⟩) 9
          have hrowr := hown.alloc (.cells #[.string ⟨#[58, 58, 58, 123, 108, 125]⟩] 9)
          have HS := Lib.hid (strs_rep0 nestLn k)
          go_wp2_with (at_builtin; refine wpList_append_own _ rfl _ _ 22 rfl w1.heap.size 9 i0 (.string ByteArray.empty) 1 16 Tryd.underlying22 hi hz0 hz1 hz2 rfl (by decide) _ _ _ rfl hrowr ⟨wr.heap.size, 0, none⟩ 1 1 [.string ⟨#[58, 58, 58, 123, 108, 125]⟩] rfl rfl hnw (by simp [Value.oneCell']) (by unfold maxLen; omega) (by omega) (by simp; omega) ?_)
          intro v' w3 hown' hgrow _
          have hown' : w3.ownsRow w1.heap.size 9 1 v' (k + 1) (strs (List.replicate (k + 1) nestLn)) := by rw [← HS.out]; exact hown'
          have hs3 := alloc_size wr (.cells #[.string ⟨#[58, 58, 58, 123, 108, 125]⟩] 9)
          have hs2 := hgrow.size
          have hb2 := (hbw.trans (((Below.refl _ wr).alloc (Nat.le_refl _) _).mono hBr)).trans (below_of_grown (B := w1.heap.size) hgrow (fun g hg => (hrowr.lt g hg).1) (by omega))
          have HO := Lib.hid hown'
          have HB := Lib.hid hb2
          clear hown' hgrow hb2 hbw hrowr hown
          go_wp2
          go_roundw
          case rel => exact ⟨k + 1, by go_num, by omega, by omega, HO.out, HB.out⟩
          case measure => simp [intOf]; omega
        · obtain rfl : k = n := by omega
          have hnw := cells_one wr (.string a2) 9
          have hrowr := hown.alloc (.cells #[.string a2] 9)
          have HS := Lib.hid (show strs (List.replicate k nestLn) ++ [Value.string a2] = strs (List.replicate k nestLn ++ [a2.data.toList]) from by
            rw [strs_append (List.replicate k nestLn), strs_one, show (⟨a2.data.toList.toArray⟩ : ByteArray) = a2 from Lib.mk_data a2])
          go_wp2_with (at_builtin; refine wpList_append_own _ rfl _ _ 22 rfl w1.heap.size 9 i0 (.string ByteArray.empty) 1 16 Tryd.underlying22 hi hz0 hz1 hz2 rfl (by decide) _ _ _ rfl hrowr ⟨wr.heap.size, 0, none⟩ 1 1 [.string a2] rfl rfl hnw (by simp [Value.oneCell']) (by unfold maxLen; omega) (by omega) (by simp; omega) ?_)
          intro v' w3 hown' hgrow _
          rw [HS.out] at hown'
          have hs3 := alloc_size wr (.cells #[.string a2] 9)
          have hs2 := hgrow.size
          have hb2 := (hbw.trans (((Below.refl _ wr).alloc (Nat.le_refl _) _).mono hBr)).trans (below_of_grown (B := w1.heap.size) hgrow (fun g hg => (hrowr.lt g hg).1) (by omega))
          have HO := Lib.hid hown'
          have HB := Lib.hid hb2
          clear hown' hgrow hb2 hbw hrowr hown
          go_wp2_with fail
          generalize hpre : List.replicate k nestLn ++ [a2.data.toList] = pre at *
          have HPre := Lib.hid hpre
          clear hpre
          go_loopw [8, 10] (fun v i w4 => RepRel w1.heap.size pre (k + 1) divE c w1 v i w4) (fun _ i _ => c - (intOf i).toNat)
          case atStart => exact ⟨0, rfl, Nat.zero_le _, by omega, by simpa using HO.out, HB.out⟩
          case round =>
            obtain ⟨q, rfl, hq, hBr4, hown4, hbw4⟩ := hrel
            by_cases hp4 : q < c
            · have hnw4 := cells_one wr (.string ⟨#[58, 58, 58]⟩) 9
              have hrow4 := hown4.alloc (.cells #[.string ⟨#[58, 58, 58]⟩] 9)
              have HS4 := Lib.hid (strs_rep pre divE q)
              go_wp2_with (at_builtin; refine wpList_append_own _ rfl _ _ 22 rfl w1.heap.size 9 i0 (.string ByteArray.empty) 1 16 Tryd.underlying22 hi hz0 hz1 hz2 rfl (by decide) _ _ _ rfl hrow4 ⟨wr.heap.size, 0, none⟩ 1 1 [.string ⟨#[58, 58, 58]⟩] rfl rfl hnw4 (by simp [Value.oneCell']) (by unfold maxLen; omega) (by omega) (by simp; omega) ?_)
              intro v' w5 hown' hgrow _
              have hown' : w5.ownsRow w1.heap.size 9 1 v' (k + 1 + q + 1) (strs (pre ++ List.replicate (q + 1) divE)) := by rw [← HS4.out]; exact hown'
              have hs3 := alloc_size wr (.cells #[.string ⟨#[58, 58, 58]⟩] 9)
              have hs2 := hgrow.size
              have hb2 := (hbw4.trans (((Below.refl _ wr).alloc (Nat.le_refl _) _).mono hBr4)).trans (below_of_grown (B := w1.heap.size) hgrow (fun g hg => (hrow4.lt g hg).1) (by omega))
              have HO5 := Lib.hid hown'
              have HB5 := Lib.hid hb2
              clear hown' hgrow hb2 hbw4 hrow4 hown4
              go_wp2
              go_roundw
              case rel => exact ⟨q + 1, by go_num, by omega, by omega, HO5.out, HB5.out⟩
              case measure => simp [intOf]; omega
            · obtain rfl : q = c := by omega
              obtain ⟨A, cap, e4, hr4, _⟩ := RowOf.own hown4
              subst e4
              have hlen : (pre ++ ends q).length = k + 1 + q := by rw [← HPre.out]; simp [ends]; omega
              have hPA := HNP.out
              have cp := parse_any A cap (pre ++ ends q) wr hr4 (by rw [hlen]; omega) (by
                intro y hy
                rw [← HPre.out, List.mem_append, List.mem_append, List.mem_replicate, List.mem_singleton] at hy
                have : a2.data.toList.length = a2.size := by simp
                rcases hy with (hy | hy) | hy
                · rw [hy.2]; simp [nestLn]
                · rw [hy]; omega
                · rw [(List.mem_replicate.1 hy).2]; simp [divE])
              rw [hPA, hlen] at cp
              have CP := Lib.hid cp
              clear cp hPA hr4 hown4
              go_wp2_with fail
              refine CP.out.mono ?_
              rintro e w6 ⟨v, X, rfl, hO, hX, b6⟩
              have HBA := Lib.hid ((b1.trans (hbw4.mono b1.size)).trans (b6.mono (by have := b1.size; omega)))
              have hXl : X.length = k + 1 := by have := congrArg List.length hX; simpa using this
              obtain ⟨g, gc, cur, rfl, _, hlt, hnc, hcm, _, _⟩ := own_block hO.row (by omega)
              have hq' : q ≤ k := hc
              obtain ⟨p0, p1, _⟩ := own_part hO (k := k) (p := ⟨k, false, [], false, [a2.data.toList]⟩) (by rw [hX, List.getElem?_append_right (by simp)]; simp)
              have hD : ∀ i, i < k → w6.cell? ⟨g, i * 5, none⟩ = some (.int .i64 i) ∧ w6.cell? ⟨g, i * 5 + 1, none⟩ = some (.bool true) ∧ w6.cell? ⟨g, i * 5 + 3, none⟩ = some (.bool (decide (i < k - q))) := by
                intro i hi'
                obtain ⟨x0, x1, _, x3, _⟩ := own_part hO (k := i) (p := nestD (k - q) i) (by rw [hX, List.getElem?_append_left (by simpa using hi'), List.getElem?_map, List.getElem?_range hi']; rfl)
                exact ⟨x0, x1, x3⟩
              rw [hXl] at hnc ⊢
              unfold maxLen at hcm
              have HD := Lib.hid hD
              clear hO hX hXl hD b6 hbw4
              go_wp2_with fail
              go_loopw [12] (fun i w7 => NPartRel k w6 i w7) (fun i _ => k - (intOf i).toNat)
              case atStart => exact ⟨0, rfl, Nat.zero_le _, rfl⟩
              case round =>
                obtain ⟨i, rfl, hik, rfl⟩ := hrel
                by_cases hp7 : i < k
                · obtain ⟨x0, x1, x3⟩ := HD.out i hp7
                  by_cases hiq : i < k - q
                  · rw [decide_eq_true hiq] at x3
                    have fo : decide ((i : Int) < (k : Int) - (q : Int)) = true := by simp; omega
                    clear hiq
                    go_wp2
                    exact ⟨⟨i + 1, by go_num, by omega, rfl⟩, by simp [intOf]; omega⟩
                  · rw [decide_eq_false hiq] at x3
                    have fo : decide ((i : Int) < (k : Int) - (q : Int)) = false := by simp; omega
                    clear hiq
                    go_wp2
                    exact ⟨⟨i + 1, by go_num, by omega, rfl⟩, by simp [intOf]; omega⟩
                · obtain rfl : i = k := by omega
                  go_wp2
                  go_ret
                  exact ⟨rfl, HBA.out⟩

theorem frameNests_walk (w : World) (hml : MaxL w) (a0 : Int) (w0 : (Lit.int .i64 a0).wf = true) (a1 : Int) (w1 : (Lit.int .i64 a1).wf = true) (a2 : ByteArray) (w2 : a2.size ≤ maxLen) :
    Calls Tryd.prog 4 #[.int .i64 a0, .int .i64 a1, .string a2] w fun e w' => e = .returned (.bool true) ∧ Below w.heap.size w w' := by
  unfold maxLen at w2
  by_cases h : (1 ≤ a0 ∧ a0 ≤ 15) ∧ (0 ≤ a1 ∧ a1 ≤ a0) ∧ a2.size ≤ 40
  · obtain ⟨⟨h1, h2⟩, ⟨h3, h4⟩, h5⟩ := h
    obtain ⟨n, rfl⟩ : ∃ n : Nat, a0 = n := ⟨a0.toNat, by omega⟩
    obtain ⟨c, rfl⟩ : ∃ c : Nat, a1 = c := ⟨a1.toNat, by omega⟩
    exact frameNests_short w hml n c a2 (by omega) (by omega) (by omega) h5
  · have HN := Lib.hid hml
    have hor : a0 < 1 ∨ 15 < a0 ∨ a1 < 0 ∨ a0 < a1 ∨ 40 < a2.size := by omega
    clear hml w0 w1 h
    rcases hor with h | h | h | h | h
    all_goals
      go_enter Tryd.func4, Tryd.ntmps4
      go_wp2_with (go_at_call 12; refine (alive6_any _ HN.out).mono ?_; rintro e w3 ⟨rfl, b2⟩)
      all_goals go_ret
      all_goals exact ⟨rfl, b2⟩

end Go.Proofs.YtodnioihadpncaaDoor
