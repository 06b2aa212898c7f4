/-
  Plain facts of package policy: names, indices, pairs; what a line adds; what a text is as a policy.
  Package policy: nameSign, isName, isIndex, rightPair, Index: what each answers, in plain words.
  Package policy: Right: what it answers, in plain words.
-/
import Derived.Test.YtkcmhdkhdjmjeaaGreatDoorLineJ
import Derived.Test.YtkcmhdkhdjmjeaaGreatDoorRepairE
import Derived.Lib.CutLaws
import Derived.Test.YtkcmhdkhdjmjeaaGreatDoorTexts
import Derived.Test.YtkcmhdkhdjmjeaaGreatDoorPrs
namespace Go.Proofs.YtkcmhdkhdjmjeaaGreatDoor
set_option linter.unusedSimpArgs false
set_option linter.unusedVariables false

def signI (r : Int) : Bool := (decide (97 ≤ r) && decide (r ≤ 122)) || ((decide (48 ≤ r) && decide (r ≤ 57)) || r == 45)
def sign8 (b : UInt8) : Bool := signI b.toNat
theorem signI_iff (r : Int) : signI r = true ↔ (97 ≤ r ∧ r ≤ 122) ∨ (48 ≤ r ∧ r ≤ 57) ∨ r = 45 := by simp [signI]
/-- May a level be called so? -/
def nmL (l : List UInt8) : Bool := l.all sign8 && (decide (1 ≤ l.length) && decide (l.length ≤ 20))
theorem nmL_iff (l : List UInt8) : nmL l = true ↔ (∀ b ∈ l, sign8 b = true) ∧ 1 ≤ l.length ∧ l.length ≤ 20 := by simp [nmL]

/-- Where a name stands, counted from i; -1: nowhere. -/
def polIdx : List (List UInt8) → List UInt8 → Int → Int
  | [], _, _ => -1
  | n :: ns, x, i => if n = x then i else polIdx ns x (i + 1)
def idxL (ns : List (List UInt8)) (x : List UInt8) : Int := polIdx ns x 0
theorem idxF_skip : ∀ (a b : List (List UInt8)) (x : List UInt8) (i : Int), x ∉ a → polIdx (a ++ b) x i = polIdx b x (i + a.length)
  | [], b, x, i, _ => by simp
  | n :: a, b, x, i, h => by
    rw [List.mem_cons, not_or] at h
    have h1 : ¬ n = x := fun e => h.1 e.symm
    rw [List.cons_append, polIdx, if_neg h1, idxF_skip a b x (i + 1) h.2, List.length_cons]
    congr 1
    omega
theorem idxF_cases : ∀ (ns : List (List UInt8)) (x : List UInt8) (i : Int), (polIdx ns x i = -1 ∧ x ∉ ns) ∨ (∃ k : Nat, ∃ h : k < ns.length, polIdx ns x i = i + k ∧ ns[k] = x ∧ x ∉ ns.take k)
  | [], x, i => Or.inl ⟨rfl, by simp⟩
  | n :: ns, x, i => by
    by_cases h : n = x
    · exact Or.inr ⟨0, by simp, by simp [polIdx, h], h, by simp⟩
    · rcases idxF_cases ns x (i + 1) with ⟨h1, h2⟩ | ⟨k, hk, h1, h2, h3⟩
      · exact Or.inl ⟨by simp [polIdx, h, h1], by simp [h2]; exact fun e => h e.symm⟩
      · refine Or.inr ⟨k + 1, by simp; omega, by simp [polIdx, h, h1]; omega, by simpa using h2, ?_⟩
        rw [List.take_succ_cons, List.mem_cons, not_or]
        exact ⟨fun e => h e.symm, h3⟩
theorem idxL_cases (ns : List (List UInt8)) (x : List UInt8) : (idxL ns x = -1 ∧ x ∉ ns) ∨ (∃ k : Nat, ∃ h : k < ns.length, idxL ns x = k ∧ ns[k] = x ∧ x ∉ ns.take k) := by
  rcases idxF_cases ns x 0 with h | ⟨k, hk, h1, h2⟩
  · exact Or.inl h
  · exact Or.inr ⟨k, hk, by unfold idxL; rw [h1]; omega, h2⟩
theorem idxL_range (ns : List (List UInt8)) (x : List UInt8) : -1 ≤ idxL ns x ∧ idxL ns x < ns.length := by
  rcases idxL_cases ns x with ⟨h, _⟩ | ⟨k, hk, h, _⟩ <;> omega
theorem idxL_none {ns : List (List UInt8)} {x : List UInt8} (h : x ∉ ns) : idxL ns x = -1 := by
  rcases idxL_cases ns x with ⟨h1, _⟩ | ⟨k, hk, h1, h2, _⟩
  · exact h1
  · exact absurd (h2 ▸ List.getElem_mem hk) h
/-- The search from k on. -/
theorem idxF_at (ns : List (List UInt8)) (x : List UInt8) (k : Nat) (h : k < ns.length) (i : Int) : polIdx (ns.drop k) x i = if ns[k] = x then i else polIdx (ns.drop (k + 1)) x (i + 1) := by
  rw [List.drop_eq_getElem_cons h, polIdx]

def isIx (i c : Int) : Bool := decide (0 ≤ i) && decide (i < c)
def pairOk (a b c : Int) : Bool := isIx a c && (isIx b c && !(a == b))
theorem isIx_iff (i c : Int) : isIx i c = true ↔ 0 ≤ i ∧ i < c := by simp [isIx]
theorem pairOk_iff (a b c : Int) : pairOk a b c = true ↔ (0 ≤ a ∧ a < c) ∧ (0 ≤ b ∧ b < c) ∧ a ≠ b := by simp [pairOk, isIx_iff]

/-- Levels, and pairs of them. -/
abbrev St := List (List UInt8) × List (Int × Int)
def lvl : List UInt8 := [108, 101, 118, 101, 108, 32]
def ltS : List UInt8 := [32, 60, 32]
def addLv (st : St) (nm : List UInt8) : Option St := if st.1.length = 64 ∨ 0 ≤ idxL st.1 nm then none else some (st.1 ++ [nm], st.2)
def addPr (st : St) (a b : Int) : Option St := if pairOk a b st.1.length then some (st.1, st.2 ++ [(a, b)]) else none
def takeL (st : St) (l : List UInt8) : Option St :=
  if Lib.hasPrefix l lvl = true ∧ nmL (l.drop 6) = true then addLv st (l.drop 6)
  else if (Lib.cut l ltS).2.2 then addPr st (idxL st.1 (Lib.cut l ltS).1) (idxL st.1 (Lib.cut l ltS).2.1) else none
def skipL (l : List UInt8) : Bool := l.all isGap || Lib.hasPrefix l [35]
def parseFrom : List (List UInt8) → St → Option St
  | [], st => some st
  | l :: ls, st => if skipL l then parseFrom ls st else match takeL st l with
    | none => none
    | some st' => parseFrom ls st'
def parseS (s : List UInt8) : Option St := match parseFrom (splitL (textL s)) ([], []) with
  | none => none
  | some st => if st.1 = [] then none else some st

theorem parse_append : ∀ (a b : List (List UInt8)) (st : St), parseFrom (a ++ b) st = (parseFrom a st).bind (parseFrom b)
  | [], b, st => rfl
  | l :: a, b, st => by
    rw [List.cons_append, parseFrom, parseFrom]
    split
    · exact parse_append a b st
    · cases takeL st l with
      | none => rfl
      | some st' => exact parse_append a b st'
theorem parse_skip {l : List UInt8} (h : skipL l = true) (ls : List (List UInt8)) (st : St) : parseFrom (l :: ls) st = parseFrom ls st := by rw [parseFrom, if_pos h]
theorem parse_take {l : List UInt8} (h : skipL l = false) {st st' : St} (ht : takeL st l = some st') (ls : List (List UInt8)) : parseFrom (l :: ls) st = parseFrom ls st' := by rw [parseFrom, if_neg (by rw [h]; simp), ht]
theorem parse_none {l : List UInt8} (h : skipL l = false) {st : St} (ht : takeL st l = none) (ls : List (List UInt8)) : parseFrom (l :: ls) st = none := by rw [parseFrom, if_neg (by rw [h]; simp), ht]

/-- Is the k-th name one, and new? -/
def okAt (ns : List (List UInt8)) (k : Nat) : Bool := nmL (ns.getD k []) && idxL ns (ns.getD k []) == (k : Int)
def rightN (ns : List (List UInt8)) : Bool := (List.range ns.length).all (okAt ns)
def rightPs (c : Nat) (ps : List (Int × Int)) : Bool := ps.all fun p => pairOk p.1 p.2 c
def rightL (st : St) : Bool := (decide (1 ≤ st.1.length) && decide (st.1.length ≤ 64)) && (rightN st.1 && rightPs st.1.length st.2)
theorem rightN_iff (ns : List (List UInt8)) : rightN ns = true ↔ ∀ k, k < ns.length → okAt ns k = true := by simp [rightN]
theorem okAt_iff (ns : List (List UInt8)) (k : Nat) (h : k < ns.length) : okAt ns k = true ↔ nmL ns[k] = true ∧ idxL ns ns[k] = k := by
  have e : ns.getD k [] = ns[k] := by rw [List.getD_eq_getElem?_getD, List.getElem?_eq_getElem h]; rfl
  unfold okAt
  rw [e, Bool.and_eq_true, beq_iff_eq]
theorem rightP_iff (c : Nat) (ps : List (Int × Int)) : rightPs c ps = true ↔ ∀ p ∈ ps, pairOk p.1 p.2 c = true := by simp [rightPs]
theorem rightL_iff (st : St) : rightL st = true ↔ (1 ≤ st.1.length ∧ st.1.length ≤ 64) ∧ rightN st.1 = true ∧ rightPs st.1.length st.2 = true := by simp [rightL]

/-- The lines of levels, and of pairs. -/
def nmAt (ns : List (List UInt8)) (i : Int) : List UInt8 := ns.getD i.toNat []
def prLine (ns : List (List UInt8)) (p : Int × Int) : List UInt8 := (nmAt ns p.1 ++ ltS) ++ nmAt ns p.2
def wLines (st : St) : List (List UInt8) := st.1.map (lvl ++ ·) ++ st.2.map (prLine st.1)

theorem hasPrefix_lvl (x : List UInt8) : Lib.hasPrefix (lvl ++ x) lvl = true := by simp [Lib.hasPrefix, lvl]
theorem skip_lvl (x : List UInt8) : skipL (lvl ++ x) = false := by
  have h : ([35] : List UInt8).isPrefixOf (lvl ++ x) = false := rfl
  simp [skipL, Lib.hasPrefix, h]
  simp [lvl, isGap]
theorem nm_notin {ns : List (List UInt8)} {k : Nat} (h : k < ns.length) (ho : okAt ns k = true) : ns[k] ∉ ns.take k := by
  have h2 := ((okAt_iff ns k h).1 ho).2
  rcases idxL_cases ns ns[k] with ⟨h1, _⟩ | ⟨j, hj, h1, _, h3⟩
  · omega
  · obtain rfl : j = k := by omega
    exact h3
theorem parse_levels (ns : List (List UInt8)) (hn : ns.length ≤ 64) (ho : rightN ns = true) (rest : List (List UInt8)) : ∀ (d k : Nat), k + d = ns.length →
    parseFrom ((ns.drop k).map (lvl ++ ·) ++ rest) (ns.take k, []) = parseFrom rest (ns, [])
  | 0, k, h => by
    rw [List.drop_eq_nil_of_le (by omega), List.take_of_length_le (by omega)]; rfl
  | d + 1, k, h => by
    have hk : k < ns.length := by omega
    have hok := (rightN_iff ns).1 ho k hk
    have hnm := ((okAt_iff ns k hk).1 hok).1
    have hni := nm_notin hk hok
    rw [List.drop_eq_getElem_cons hk, List.map_cons, List.cons_append]
    rw [parse_take (skip_lvl _) (st' := (ns.take (k + 1), [])) ?_]
    · exact parse_levels ns hn ho rest d (k + 1) (by omega)
    · have e : (lvl ++ ns[k]).drop 6 = ns[k] := rfl
      unfold takeL
      rw [e, if_pos ⟨hasPrefix_lvl _, hnm⟩, addLv, if_neg ?_, List.take_succ_eq_append_getElem hk]
      rw [idxL_none hni, List.length_take]
      omega

theorem sign_not {b : UInt8} (h : sign8 b = true) : b ≠ 32 ∧ b ≠ 9 ∧ b ≠ 35 ∧ b ≠ 60 ∧ b ≠ 10 ∧ b ≠ 13 ∧ b ≠ 0 ∧ b.toNat < 128 := by
  have h1 := (signI_iff _).1 h
  have e : ∀ n : Nat, n < 256 → b.toNat ≠ n → b ≠ n.toUInt8 := fun n hn hb e => hb (by rw [e]; simp; omega)
  exact ⟨e 32 (by omega) (by omega), e 9 (by omega) (by omega), e 35 (by omega) (by omega), e 60 (by omega) (by omega), e 10 (by omega) (by omega), e 13 (by omega) (by omega), e 0 (by omega) (by omega), by omega⟩
theorem cut_pair (A B : List UInt8) (h : ∀ b ∈ A, b ≠ 32) : Lib.cut ((A ++ ltS) ++ B) ltS = (A, B, true) := by
  have hi : Lib.index ((A ++ ltS) ++ B) ltS = A.length := by
    refine Lib.index_first (i := A.length) (by simp) ?_ ?_
    · unfold Lib.occAt
      rw [List.append_assoc, List.drop_left]
      simp [ltS]
    · intro j hj
      unfold Lib.occAt
      rw [List.append_assoc, List.drop_append_of_le_length (by omega), List.drop_eq_getElem_cons hj]
      have := h A[j] (List.getElem_mem hj)
      simp only [ltS, List.cons_append, List.isPrefixOf, Bool.and_eq_false_iff, beq_eq_false_iff_ne]
      exact Or.inl (fun e => this e.symm)
  unfold Lib.cut
  rw [hi, if_pos (by omega)]
  have e1 : ((A.length : Int)).toNat = A.length := by omega
  rw [e1]
  refine Prod.ext ?_ (Prod.ext ?_ rfl)
  · simp
  · show List.drop (A.length + ltS.length) _ = B
    rw [show A.length + ltS.length = (A ++ ltS).length from by simp, List.drop_left]
theorem pair_noname (A B : List UInt8) (hA : ∀ b ∈ A, sign8 b = true) (h1 : 1 ≤ A.length) : ¬ (Lib.hasPrefix ((A ++ ltS) ++ B) lvl = true ∧ nmL (((A ++ ltS) ++ B).drop 6) = true) := by
  rintro ⟨hp, hn⟩
  have hs := fun b hb => (sign_not (hA b hb)).1
  have h60 : (60 : UInt8) ∈ ((A ++ ltS) ++ B).drop 6 → False := fun hm => by
    have := (nmL_iff _).1 hn
    have := (sign_not (this.1 60 hm)).2.2.2.1
    exact this rfl
  unfold Lib.hasPrefix lvl ltS at hp
  unfold ltS at h60
  match A, h1, hs with
  | [a], _, hs => simp at hp
  | [a, b], _, hs => simp at hp
  | [a, b, c], _, hs => simp at hp
  | [a, b, c, d], _, hs => simp at hp
  | [a, b, c, d, e], _, hs => exact h60 (by simp)
  | a :: b :: c :: d :: e :: f :: A, _, hs =>
    simp at hp
    have := hs f (by simp)
    simp_all
theorem skip_pair (A B : List UInt8) (hA : ∀ b ∈ A, sign8 b = true) (h1 : 1 ≤ A.length) : skipL ((A ++ ltS) ++ B) = false := by
  match A, h1 with
  | a :: A, _ =>
    have h := sign_not (hA a (by simp))
    have e : ([35] : List UInt8).isPrefixOf ((a :: A ++ ltS) ++ B) = false := by
      show ((35 : UInt8) == a && _) = false
      rw [Bool.and_eq_false_iff]
      exact Or.inl (beq_eq_false_iff_ne.2 (Ne.symm h.2.2.1))
    unfold skipL Lib.hasPrefix
    rw [e]
    simp [isGap, h.1, h.2.1]
theorem nmAt_name {ns : List (List UInt8)} (ho : rightN ns = true) {i : Int} (h0 : 0 ≤ i) (h1 : i < ns.length) : nmL (nmAt ns i) = true ∧ idxL ns (nmAt ns i) = i := by
  have hk : i.toNat < ns.length := by omega
  have hok := (okAt_iff ns _ hk).1 ((rightN_iff ns).1 ho _ hk)
  have e : nmAt ns i = ns[i.toNat] := by unfold nmAt; rw [List.getD_eq_getElem?_getD, List.getElem?_eq_getElem hk]; rfl
  rw [e]
  exact ⟨hok.1, by rw [hok.2]; omega⟩
theorem parse_pairs (ns : List (List UInt8)) (ho : rightN ns = true) : ∀ (ps qs : List (Int × Int)), rightPs ns.length ps = true → parseFrom (ps.map (prLine ns)) (ns, qs) = some (ns, qs ++ ps)
  | [], qs, _ => by simp [parseFrom]
  | p :: ps, qs, h => by
    have hp := (rightP_iff _ _).1 h
    have hp0 := hp p (by simp)
    have hb := (pairOk_iff _ _ _).1 hp0
    have hA := nmAt_name ho hb.1.1 hb.1.2
    have hB := nmAt_name ho hb.2.1.1 hb.2.1.2
    have hA2 := (nmL_iff _).1 hA.1
    rw [List.map_cons, parse_take (l := prLine ns p) (st' := (ns, qs ++ [p])) (skip_pair _ _ hA2.1 hA2.2.1) ?_, parse_pairs ns ho ps (qs ++ [p]) ((rightP_iff _ _).2 fun q hq => hp q (by simp [hq]))]
    · simp
    · unfold takeL prLine
      rw [if_neg (pair_noname _ _ hA2.1 hA2.2.1), cut_pair _ _ (fun b hb => (sign_not (hA2.1 b hb)).1)]
      show (if true = true then addPr (ns, qs) (idxL ns (nmAt ns p.1)) (idxL ns (nmAt ns p.2)) else none) = _
      rw [if_pos rfl, hA.2, hB.2, addPr, if_pos hp0]
/-- What is written is read as it was. -/
theorem parse_back (st : St) (h : rightL st = true) : parseFrom (wLines st) ([], []) = some st := by
  obtain ⟨⟨h1, h2⟩, h3, h4⟩ := (rightL_iff st).1 h
  have h5 := parse_levels st.1 h2 h3 (st.2.map (prLine st.1)) st.1.length 0 (by omega)
  rw [List.drop_zero, List.take_zero] at h5
  unfold wLines
  rw [h5, parse_pairs st.1 h3 st.2 [] h4]
  rfl

/-! ### Text that is plain; lines -/
def asc (l : List UInt8) : List (Nat × List UInt8) := l.map fun b => (b.toNat, [b])
def Clean (l : List UInt8) : Prop := ∀ b ∈ l, b.toNat < 128 ∧ b ≠ 0 ∧ b ≠ 13
theorem segs_clean : ∀ l : List UInt8, (∀ b ∈ l, b.toNat < 128) → segs l = asc l
  | [], _ => rfl
  | b :: l, h => by
    rw [segs_cons, dec_ascii b l (h b (by simp))]
    show (b.toNat, [b]) :: segs l = _
    rw [segs_clean l (fun x hx => h x (by simp [hx]))]
    rfl
theorem textOne_clean (b : UInt8) (l : Int) (h : b.toNat < 128 ∧ b ≠ 0 ∧ b ≠ 13) (hl : l ≠ 13) : textOne b.toNat l = [b] := by
  have h13 : (b.toNat : Int) ≠ 13 := fun e => h.2.2 (by apply UInt8.toNat_inj.1; show b.toNat = 13; omega)
  have h0 : (b.toNat : Int) ≠ 0 := fun e => h.2.1 (by apply UInt8.toNat_inj.1; show b.toNat = 0; omega)
  unfold textOne
  rw [if_neg (by omega), if_neg h13, if_neg h0, enc1 _ h.1]
  congr 1
  apply UInt8.toNat_inj.1
  simp
/-- What was read last. -/
def lastC : List (Nat × List UInt8) → Int → Int
  | [], l => l
  | c :: cs, _ => lastC cs c.1
theorem textS_append : ∀ (a b : List (Nat × List UInt8)) (l : Int), textS (a ++ b) l = textS a l ++ textS b (lastC a l)
  | [], _, _ => rfl
  | c :: a, b, l => by
    simp only [List.cons_append, textS, lastC]
    rw [textS_append a b c.1, List.append_assoc]
theorem lastC_ne : ∀ (a : List (Nat × List UInt8)) (l : Int), l ≠ 13 → (∀ c ∈ a, c.1 ≠ 13) → lastC a l ≠ 13
  | [], _, h, _ => h
  | c :: a, l, _, h => lastC_ne a c.1 (by have := h c (by simp); omega) (fun x hx => h x (by simp [hx]))
theorem textS_clean : ∀ (x : List UInt8) (l : Int), Clean x → l ≠ 13 → textS (asc x) l = x
  | [], _, _, _ => rfl
  | b :: x, l, h, hl => by
    have hb := h b (by simp)
    have h13 : (b.toNat : Int) ≠ 13 := fun e => hb.2.2 (by apply UInt8.toNat_inj.1; show b.toNat = 13; omega)
    show textOne b.toNat l ++ textS (asc x) b.toNat = _
    rw [textOne_clean b l hb hl, textS_clean x _ (fun y hy => h y (by simp [hy])) h13]
    rfl
theorem textL_clean (x : List UInt8) (h : Clean x) : textL x = x := by
  unfold textL
  rw [segs_clean x (fun b hb => (h b hb).1), textS_clean x 0 h (by omega)]
theorem clean_13 (x : List UInt8) (h : Clean x) : ∀ c ∈ asc x, c.1 ≠ 13 := by
  intro c hc
  obtain ⟨b, hb, rfl⟩ := List.mem_map.1 hc
  exact fun e => (h b hb).2.2 (by apply UInt8.toNat_inj.1; exact e)
theorem fresh_clean (x : List UInt8) (h : Clean x) : fresh x := by
  cases x with
  | nil => exact fresh_nil
  | cons b x =>
    have := (h b (by simp)).1
    exact fresh_cons _ _ (by unfold goesOn; simp; omega)

theorem dec_small (b : UInt8) (l : List UInt8) (h : (dec (b :: l)).1 < 128) : (dec (b :: l)).1 = b.toNat := by
  by_cases hb : b.toNat < 128
  · rw [dec_ascii b l hb]
  · exfalso
    have h0 : ¬ b.toNat < 0x80 := by omega
    revert h
    unfold dec
    simp only [List.getD_cons_zero, if_neg h0]
    split
    · rename_i hc; simp at hc; split
      · simp; omega
      · simp
    · split
      · split
        · rename_i hc; simp at hc; simp; omega
        · simp
      · split
        · split
          · rename_i hc; simp at hc; simp; omega
          · simp
        · simp
theorem segs_runes : ∀ (n : Nat) (l : List UInt8), l.length ≤ n → (∀ b ∈ l, b ≠ 10 ∧ b ≠ 13) → ∀ c ∈ segs l, c.1 ≠ 10 ∧ c.1 ≠ 13
  | _, [], _, _ => by simp [segs_nil]
  | n + 1, b :: l, hn, h => by
    have hw := dec_width b l
    simp only [List.length_cons] at hn
    rw [segs_cons]
    intro c hc
    rw [List.mem_cons] at hc
    rcases hc with rfl | hc
    · have hb := h b (by simp)
      constructor
      · intro e
        have := dec_small b l (by show _ < _; simp only at e; omega)
        simp only at e
        exact hb.1 (by apply UInt8.toNat_inj.1; show b.toNat = 10; omega)
      · intro e
        have := dec_small b l (by show _ < _; simp only at e; omega)
        simp only at e
        exact hb.2 (by apply UInt8.toNat_inj.1; show b.toNat = 13; omega)
    · exact segs_runes n _ (by rw [List.length_drop, List.length_cons]; omega) (fun x hx => h x (List.mem_of_mem_drop hx)) c hc
theorem enc_no10 (n : Nat) (hv : Utf8.valid n = true) (h10 : n ≠ 10) : ∀ b ∈ Lib.encodeRune n, b ≠ 10 := by
  have hv' := of_valid n hv
  have e : ∀ (b : UInt8) (m : Nat), b = m.toUInt8 → m < 256 → m ≠ 10 → b ≠ 10 := fun b m h1 h2 h3 h4 => h3 (by
    have := congrArg UInt8.toNat (h1.symm.trans h4)
    rw [u8 m h2] at this
    simpa using this)
  intro b hb
  by_cases h1 : n < 128
  · rw [enc1 n h1] at hb
    simp at hb
    exact e b n hb (by omega) h10
  · by_cases h2 : n < 2048
    · rw [enc2 n (by omega) h2] at hb
      simp only [List.mem_cons, List.not_mem_nil, or_false] at hb
      rcases hb with hb | hb
      · exact e b _ hb (by omega) (by omega)
      · exact e b _ hb (by omega) (by omega)
    · by_cases h3 : n < 65536
      · rw [enc3 n (by omega)] at hb
        simp only [List.mem_cons, List.not_mem_nil, or_false] at hb
        rcases hb with hb | hb | hb
        · exact e b _ hb (by omega) (by omega)
        · exact e b _ hb (by omega) (by omega)
        · exact e b _ hb (by omega) (by omega)
      · rw [enc4 n (by omega) (by omega)] at hb
        simp only [List.mem_cons, List.not_mem_nil, or_false] at hb
        rcases hb with hb | hb | hb | hb
        · exact e b _ hb (by omega) (by omega)
        · exact e b _ hb (by omega) (by omega)
        · exact e b _ hb (by omega) (by omega)
        · exact e b _ hb (by omega) (by omega)
theorem textS_no10 : ∀ (cs : List (Nat × List UInt8)) (l : Int), (∀ c ∈ cs, Utf8.valid c.1 = true ∧ c.1 ≠ 10 ∧ c.1 ≠ 13) → ∀ b ∈ textS cs l, b ≠ 10
  | [], _, _ => by simp [textS]
  | c :: cs, l, h => by
    have hc := h c (by simp)
    intro b hb
    simp only [textS, List.mem_append] at hb
    rcases hb with hb | hb
    · unfold textOne at hb
      rw [if_neg (by omega), if_neg (by omega)] at hb
      split at hb
      · exact enc_no10 65533 (by decide) (by omega) b hb
      · exact enc_no10 c.1 hc.1 hc.2.1 b hb
    · exact textS_no10 cs c.1 (fun x hx => h x (by simp [hx])) b hb

/-- A remark between plain texts. -/
theorem textL_mid (P more mid Q : List UInt8) (hP : Clean P) (hm : ∀ b ∈ more, b ≠ 10 ∧ b ≠ 13) (hmid : Clean mid) (hne : mid ≠ []) (hQ : Clean Q) :
    ∃ M, (∀ b ∈ M, b ≠ 10) ∧ textL (P ++ (35 :: more) ++ mid ++ Q) = P ++ (35 :: M) ++ mid ++ Q := by
  have hPc : Clean (P ++ [35]) := by
    intro b hb
    rw [List.mem_append, List.mem_singleton] at hb
    rcases hb with hb | rfl
    · exact hP b hb
    · decide
  have hmq : Clean (mid ++ Q) := fun b hb => (List.mem_append.1 hb).elim (hmid b) (hQ b)
  have hmr := segs_runes more.length more (Nat.le_refl _) hm
  have hmv := segs_valid more.length more (Nat.le_refl _)
  have e1 : segs (P ++ (35 :: more) ++ mid ++ Q) = asc (P ++ [35]) ++ (segs more ++ asc (mid ++ Q)) := by
    rw [show P ++ (35 :: more) ++ mid ++ Q = ((P ++ [35]) ++ more) ++ (mid ++ Q) from by simp]
    rw [segs_app _ (fresh_clean _ hmq), segs_clean _ (fun b hb => (hmq b hb).1)]
    have : ∀ (x y : List UInt8), (∀ b ∈ x, b.toNat < 128) → segs (x ++ y) = asc x ++ segs y := by
      intro x
      induction x with
      | nil => intro y _; rfl
      | cons b x ih =>
        intro y hx
        rw [List.cons_append, segs_cons, dec_ascii b _ (hx b (by simp))]
        show (b.toNat, [b]) :: segs (x ++ y) = _
        rw [ih y (fun z hz => hx z (by simp [hz]))]
        rfl
    rw [this _ _ (fun b hb => (hPc b hb).1), List.append_assoc]
  have hl1 := lastC_ne _ 0 (by omega) (clean_13 _ hPc)
  have hl2 : lastC (segs more) (lastC (asc (P ++ [35])) 0) ≠ 13 := lastC_ne _ _ hl1 (fun c hc => (hmr c hc).2)
  refine ⟨textS (segs more) (lastC (asc (P ++ [35])) 0), textS_no10 _ _ (fun c hc => ⟨hmv c hc, hmr c hc⟩), ?_⟩
  unfold textL
  rw [e1, textS_append, textS_append, textS_clean _ 0 hPc (by omega), textS_clean _ _ hmq hl2]
  simp

/-- A text that ends with an LF, or has nothing. -/
def Ends (P : List UInt8) : Prop := P = [] ∨ P.getLast? = some 10
theorem splitFrom_ends : ∀ (P R cur : List UInt8), P.getLast? = some 10 → splitFrom cur (P ++ R) = splitFrom cur P ++ splitFrom [] R
  | [], _, _, h => by simp at h
  | [b], R, cur, h => by
    simp at h
    subst h
    simp [splitFrom]
  | b :: c :: P, R, cur, h => by
    rw [List.getLast?_cons_cons] at h
    rw [List.cons_append, splitFrom, splitFrom]
    split
    · rw [splitFrom_ends (c :: P) R [] h]; rfl
    · exact splitFrom_ends (c :: P) R _ h
theorem split_ends (P R : List UInt8) (h : Ends P) : splitL (P ++ R) = splitL P ++ splitL R := by
  rcases h with rfl | h
  · rfl
  · exact splitFrom_ends P R [] h

theorem parse_mid (P Q M : List UInt8) (hP : Ends P) (hM : ∀ b ∈ M, b ≠ 10) (st : St) :
    parseFrom (splitL (P ++ (35 :: M) ++ [10, 10, 32, 9, 10] ++ Q)) st = parseFrom (splitL (P ++ Q)) st := by
  rw [List.append_assoc, List.append_assoc, split_ends P _ hP, split_ends P Q hP]
  have e : splitL ((35 :: M) ++ ([10, 10, 32, 9, 10] ++ Q)) = (35 :: M) :: [] :: [32, 9] :: splitL Q := by
    unfold splitL
    rw [splitFrom_more (35 :: M) [] _ (fun x hx => by
      rw [List.mem_cons] at hx
      rcases hx with rfl | hx
      · decide
      · exact hM x hx)]
    simp [splitFrom]
  rw [e, parse_append, parse_append]
  congr 1

end Go.Proofs.YtkcmhdkhdjmjeaaGreatDoor

namespace Go.Proofs.YtkcmhdkhdjmjeaaGreatDoor
open Go.RowKit
set_option linter.unusedSimpArgs false
set_option linter.unusedVariables false

theorem sign_any (r : Int) (w : World) :
    Calls Tryz.prog 56 #[.int .i32 r] w fun e w' => e = .returned (.bool (signI r)) ∧ w = w' := by
  go_enter Tryz.func56, Tryz.ntmps56
  go_wp2
  all_goals (go_ret; exact ⟨ret_bool (by rw [Bool.eq_iff_iff, signI_iff]; simp; omega), rfl⟩)

theorem isIx_any (i c : Int) (w : World) :
    Calls Tryz.prog 57 #[.int .i64 i, .int .i64 c] w fun e w' => e = .returned (.bool (isIx i c)) ∧ w = w' := by
  go_enter Tryz.func57, Tryz.ntmps57
  go_wp2
  all_goals (go_ret; exact ⟨ret_bool (by simp [isIx]; omega), rfl⟩)

/-- A pair, as a value. -/
def prV (p : Int × Int) : Value := .agg #[.int .i64 p.1, .int .i64 p.2]

theorem rightPair_any (a b c : Int) (w : World) :
    Calls Tryz.prog 23 #[.agg #[.int .i64 a, .int .i64 b], .int .i64 c] w fun e w' => e = .returned (.bool (pairOk a b c)) ∧ Below w.heap.size w w' := by
  go_enter Tryz.func23, Tryz.ntmps23
  cases h1 : isIx a c with
  | false =>
    have c1 := fun w1 => isIx_any a c w1
    rw [h1] at c1
    have HF := Lib.hid (show pairOk a b c = false from by simp [pairOk, h1])
    clear h1
    go_wp2_with (go_at_call 57; refine (c1 _).mono ?_; rintro e w' ⟨rfl, rfl⟩)
    go_ret
    exact ⟨ret_bool HF.out.symm, (Below.refl _ w).alloc (Nat.le_refl _) _⟩
  | true =>
    have c1 := fun w1 => isIx_any a c w1
    rw [h1] at c1
    cases h2 : isIx b c with
    | false =>
      have c2 := fun w1 => isIx_any b c w1
      rw [h2] at c2
      have HF := Lib.hid (show pairOk a b c = false from by simp [pairOk, h2])
      clear h1 h2
      go_wp2_with fail
      refine (c1 _).mono ?_
      rintro e w' ⟨rfl, rfl⟩
      go_wp2_with fail
      refine (c2 _).mono ?_
      rintro e w' ⟨rfl, rfl⟩
      go_wp2
      go_ret
      exact ⟨ret_bool HF.out.symm, (Below.refl _ w).alloc (Nat.le_refl _) _⟩
    | true =>
      have c2 := fun w1 => isIx_any b c w1
      rw [h2] at c2
      have HF := Lib.hid (show pairOk a b c = !(a == b) from by simp [pairOk, h1, h2])
      clear h1 h2
      go_wp2_with fail
      refine (c1 _).mono ?_
      rintro e w' ⟨rfl, rfl⟩
      go_wp2_with fail
      refine (c2 _).mono ?_
      rintro e w' ⟨rfl, rfl⟩
      go_wp2
      go_ret
      exact ⟨ret_bool (by rw [HF.out]; rfl), (Below.refl _ w).alloc (Nat.le_refl _) _⟩

theorem sign_at (s : ByteArray) (k : Nat) (h : k < s.size) : signI (Utf8.decode s k).1 = sign8 s[k] ∧ (sign8 s[k] = true → (Utf8.decode s k).2 = 1) := by
  by_cases ha : s[k].toNat < 128
  · rw [decode_ascii s k h ha]
    exact ⟨rfl, fun _ => rfl⟩
  · have hd := (decode_high s k h (by omega)).1
    have f1 : signI (Utf8.decode s k).1 = false := by
      rw [Bool.eq_false_iff]; intro e; have := (signI_iff _).1 e; omega
    have f2 : sign8 s[k] = false := by
      rw [Bool.eq_false_iff]; intro e; have := (signI_iff _).1 e; omega
    rw [f1, f2]
    exact ⟨rfl, fun e => by cases e⟩

def NmRel (s : ByteArray) (w : World) (I : Nat) (wr : World) : Prop :=
  ∃ k : Nat, k ≤ s.size ∧ wr.heap[I]? = some (.stringIter s k) ∧ Below w.heap.size w wr ∧ (∀ j (h : j < s.size), j < k → sign8 s[j] = true)

set_option maxHeartbeats 1000000 in
theorem isName_any (s : ByteArray) (w : World) (hs : s.size ≤ 9223372036854775807) :
    Calls Tryz.prog 22 #[.string s] w fun e w' => e = .returned (.bool (nmL s.data.toList)) ∧ Below w.heap.size w w' := by
  go_enter Tryz.func22, Tryz.ntmps22
  go_wp2_with fail
  go_loopw [] (fun wr => NmRel s w w.heap.size wr) (fun wr => s.size - wr.iterPos w.heap.size)
  case atStart => exact ⟨0, Nat.zero_le _, World.iter_heap w s 0, (Below.refl _ w).alloc (Nat.le_refl _) _, fun j _ hj => absurd hj (Nat.not_lt_zero _)⟩
  case round =>
    obtain ⟨k, hk, hit, hbw, hall⟩ := hrel
    by_cases hp : k < s.size
    · have hnx : ∀ ty, (Instr.next (.pointer (some ⟨w.heap.size, 0, none⟩)) true ty).run Tryz.prog wr = _ := fun ty => Lib.run_next_any_at wr w.heap.size s k ty hit hp
      have hit2 := Lib.iterAt_heap wr w.heap.size s k (k + (Utf8.decode s k).2) hit
      have hbw2 := Lib.below_iterAt hbw (k := w.heap.size) (by omega) s (k + (Utf8.decode s k).2)
      have Hit := Lib.hid hit
      have HA := Lib.hid hall
      have HS := Lib.hid (sign_at s k hp)
      clear hit hbw hall
      have hd1 := decode_le s k
      have cs := fun w1 => sign_any (Utf8.decode s k).1 w1
      rw [HS.out.1] at cs
      cases hc : sign8 s[k] with
      | true =>
        rw [hc] at cs
        have H1 := Lib.hid (HS.out.2 hc)
        have HC := Lib.hid hc
        clear hc
        go_wp2_with (go_at_call 56; refine (cs _).mono ?_; rintro e w' ⟨rfl, rfl⟩)
        go_roundw
        case rel =>
          have h1 := H1.out
          refine ⟨k + (Utf8.decode s k).2, by omega, hit2, hbw2, fun j hj hjk => ?_⟩
          by_cases e : j = k
          · subst e; exact HC.out
          · exact HA.out j hj (by omega)
        case measure => have h1 := H1.out; simp only [World.iterPos, hit2, Hit.out]; omega
      | false =>
        rw [hc] at cs
        have HF := Lib.hid (show nmL s.data.toList = false from by
          rw [Bool.eq_false_iff]
          intro e
          have h1 := ((nmL_iff _).1 e).1 (s.data.toList[k]'(by simpa using hp)) (List.getElem_mem _)
          have h2 : s.data.toList[k]'(by simpa using hp) = s[k] := rfl
          rw [h2, hc] at h1
          cases h1)
        clear hc
        go_wp2_with (go_at_call 56; refine (cs _).mono ?_; rintro e w' ⟨rfl, rfl⟩)
        go_ret
        exact ⟨ret_bool HF.out.symm, hbw2⟩
    · have hnx : ∀ ty, (Instr.next (.pointer (some ⟨w.heap.size, 0, none⟩)) true ty).run Tryz.prog wr = _ := fun ty => Lib.run_next_end_at wr w.heap.size s k ty hit hp
      obtain rfl : k = s.size := by omega
      have HF := Lib.hid (show nmL s.data.toList = (decide (1 ≤ s.size) && decide (s.size ≤ 20)) from by
        have h1 : s.data.toList.all sign8 = true := by
          rw [List.all_eq_true]
          intro b hb
          obtain ⟨j, hj, rfl⟩ := List.mem_iff_getElem.1 hb
          have hj2 : j < s.size := by simpa using hj
          exact hall j hj2 hj2
        have h2 : s.data.toList.length = s.size := by simp
        rw [nmL, h1, h2, Bool.true_and])
      clear hall
      go_wp2
      all_goals (go_ret; exact ⟨ret_bool (by rw [HF.out, Bool.eq_iff_iff]; simp; omega), hbw⟩)

def IxRel (ns : List (List UInt8)) (x : List UInt8) (w : World) (i : Value) (wr : World) : Prop :=
  ∃ k : Nat, i = .int .i64 k ∧ k ≤ ns.length ∧ polIdx (ns.drop k) x k = idxL ns x ∧ wr = w

/-- A policy, as a value. -/
def polV (A : Option Addr) (n ca : Nat) (B : Option Addr) (m cb : Nat) : Value := .agg #[.slice A n ca, .slice B m cb]

set_option maxHeartbeats 1000000 in
theorem index_any (A : Option Addr) (ca : Nat) (V : Value) (ns : List (List UInt8)) (x : ByteArray) (w : World) (hrow : RowOf w A ca (strs ns)) :
    Calls Tryz.prog 20 #[.agg #[.slice A ns.length ca, V], .string x] w fun e w' => e = .returned (.int .i64 (idxL ns x.data.toList)) ∧ Below w.heap.size w w' := by
  have hc1 := hrow.1
  have hc2 := hrow.2.1
  rw [strs_length] at hc1
  unfold maxLen at hc2
  go_enter Tryz.func20, Tryz.ntmps20
  go_wp2_with fail
  go_loopw [10] (fun i wr => IxRel ns x.data.toList (w.alloc (.cells #[.slice A ns.length ca, V] 26)) i wr) (fun i wr => ns.length - (intOf i).toNat)
  case atStart => exact ⟨0, rfl, Nat.zero_le _, rfl, rfl⟩
  case round =>
    obtain ⟨k, rfl, hk, hix, rfl⟩ := hrel
    by_cases hp : k < ns.length
    · obtain ⟨b, off, rfl, hb, hc⟩ := (hrow.alloc (.cells #[.slice A ns.length ca, V] 26)).cellAt hp
      rw [idxF_at ns _ k hp] at hix
      by_cases he : ns[k] = x.data.toList
      · rw [if_pos he] at hix
        have fe : (@BEq.beq (List UInt8) (@List.instBEq UInt8 (@instBEqOfDecidableEq UInt8 instDecidableEqUInt8)) ns[k] x.toList) = true := by rw [ByteArray.toList_eq, he]; simp
        have HI := Lib.hid hix
        clear he hix
        go_wp2
        go_ret
        exact ⟨ret_int HI.out, (Below.refl _ w).alloc (Nat.le_refl _) _⟩
      · rw [if_neg he] at hix
        have fe : (@BEq.beq (List UInt8) (@List.instBEq UInt8 (@instBEqOfDecidableEq UInt8 instDecidableEqUInt8)) ns[k] x.toList) = false := by rw [ByteArray.toList_eq]; simpa using he
        have HI := Lib.hid hix
        clear he hix
        go_wp2
        go_roundw
        case rel => exact ⟨k + 1, by go_num, by omega, by rw [← HI.out]; congr 1, rfl⟩
        case measure => simp [intOf]; omega
    · obtain rfl : k = ns.length := by omega
      rw [List.drop_eq_nil_of_le (Nat.le_refl _)] at hix
      have HI := Lib.hid hix
      clear hix
      go_wp2
      go_ret
      exact ⟨ret_int HI.out, (Below.refl _ w).alloc (Nat.le_refl _) _⟩

end Go.Proofs.YtkcmhdkhdjmjeaaGreatDoor

namespace Go.Proofs.YtkcmhdkhdjmjeaaGreatDoor
open Go.RowKit
set_option linter.unusedSimpArgs false
set_option linter.unusedVariables false

def R1 (ns : List (List UInt8)) (w1 : World) (i : Value) (wr : World) : Prop :=
  ∃ k : Nat, i = .int .i64 k ∧ k ≤ ns.length ∧ (∀ j, j < k → okAt ns j = true) ∧ Below w1.heap.size w1 wr
def R2 (c : Nat) (ps : List (Int × Int)) (w1 : World) (i : Value) (wr : World) : Prop :=
  ∃ k : Nat, i = .int .i64 k ∧ k ≤ ps.length ∧ (∀ p ∈ ps.take k, pairOk p.1 p.2 c = true) ∧ Below w1.heap.size w1 wr

set_option maxHeartbeats 2000000 in
theorem polRight_any (A : Option Addr) (ca : Nat) (B : Option Addr) (cb : Nat) (st : St) (w : World) (hrow : RowOf w A ca (strs st.1)) (hpr : PairsAt w B cb st.2) (hz : ∀ y ∈ st.1, y.length ≤ 9223372036854775807) :
    Calls Tryz.prog 6 #[.agg #[.slice A st.1.length ca, .slice B st.2.length cb]] w fun e w' => e = .returned (.bool (rightL st)) ∧ Below w.heap.size w w' := by
  obtain ⟨ns, ps⟩ := st
  simp only at *
  have hc1 := hrow.1
  have hc2 := hrow.2.1
  rw [strs_length] at hc1
  have hd1 := hpr.1
  have hd2 := hpr.2.1
  unfold maxLen at hc2 hd2
  have HZ := Lib.hid hz
  clear hz
  by_cases hlo : ns.length < 1 ∨ 64 < ns.length
  · have HF := Lib.hid (show rightL (ns, ps) = false from by
      rw [Bool.eq_false_iff]; intro e
      have := ((rightL_iff _).1 e).1
      simp only at this
      omega)
    rcases hlo with hlo | hlo
    all_goals
      go_enter Tryz.func6, Tryz.ntmps6
      go_wp2
      go_ret
      exact ⟨ret_bool HF.out.symm, (Below.refl _ w).alloc (Nat.le_refl _) _⟩
  · have h1 : 1 ≤ ns.length := by omega
    have h2 : ns.length ≤ 64 := by omega
    clear hlo
    have hbx := box_cell w (.slice A ns.length ca) (.slice B ps.length cb) 26
    have hb0 : Below w.heap.size w (w.alloc (.cells #[.slice A ns.length ca, .slice B ps.length cb] 26)) := (Below.refl _ w).alloc (Nat.le_refl _) _
    have hs0 := alloc_size w (.cells #[.slice A ns.length ca, .slice B ps.length cb] 26)
    go_enter Tryz.func6, Tryz.ntmps6
    go_wp2_with fail
    go_loopw [20] (fun i wr => R1 ns (w.alloc (.cells #[.slice A ns.length ca, .slice B ps.length cb] 26)) i wr) (fun i wr => ns.length - (intOf i).toNat)
    case atStart => exact ⟨0, rfl, Nat.zero_le _, fun j hj => absurd hj (Nat.not_lt_zero _), Below.refl _ _⟩
    case round =>
      obtain ⟨k, rfl, hk, hall, hbw⟩ := hrel
      have hlt : w.heap.size < (w.alloc (.cells #[.slice A ns.length ca, .slice B ps.length cb] 26)).heap.size := by omega
      have hx0 := (hbw.cell (p := ⟨w.heap.size, 0, none⟩) hlt).trans hbx.1
      have hx1 := (hbw.cell (p := ⟨w.heap.size, 1, none⟩) hlt).trans hbx.2
      have hbt := hb0.then hbw
      have hrow2 := hrow.below hbt
      have hpr2 := hpr.below hbt
      have HA := Lib.hid hall
      have HB := Lib.hid hbw
      have HT := Lib.hid hbt
      clear hall hbw hbt
      by_cases hp : k < ns.length
      · obtain ⟨b, off, rfl, hb, hc⟩ := hrow2.cellAt hp
        have hnz := HZ.out ns[k] (List.getElem_mem hp)
        rw [← str_size] at hnz
        have cn := fun w1 => isName_any ⟨ns[k].toArray⟩ w1 hnz
        rw [show (⟨ns[k].toArray⟩ : ByteArray).data.toList = ns[k] from rfl] at cn
        have ci := fun w1 h => index_any (some ⟨b, off, none⟩) ca (.slice B ps.length cb) ns ⟨ns[k].toArray⟩ w1 h
        rw [show (⟨ns[k].toArray⟩ : ByteArray).data.toList = ns[k] from rfl] at ci
        cases hnm : nmL ns[k] with
        | false =>
          rw [hnm] at cn
          have HF := Lib.hid (show rightL (ns, ps) = false from by
            rw [Bool.eq_false_iff]; intro e
            have h3 := (rightN_iff _).1 ((rightL_iff _).1 e).2.1 k hp
            have h4 := ((okAt_iff ns k hp).1 h3).1
            rw [hnm] at h4; cases h4)
          clear hnm
          go_wp2_with fail
          refine (cn _).mono ?_
          rintro e w2 ⟨rfl, b2⟩
          go_wp2
          go_ret
          exact ⟨ret_bool HF.out.symm, HT.out.then b2⟩
        | true =>
          rw [hnm] at cn
          go_wp2_with fail
          refine (cn _).mono ?_
          rintro e w2 ⟨rfl, b2⟩
          have hx02 := (b2.cell (p := ⟨w.heap.size, 0, none⟩) (World.block_lt_of_cell? _ _ hx0)).trans hx0
          have hx12 := (b2.cell (p := ⟨w.heap.size, 1, none⟩) (World.block_lt_of_cell? _ _ hx1)).trans hx1
          have hrow3 := hrow2.below b2
          go_wp2_with fail
          by_cases hix : idxL ns ns[k] = k
          · rw [hix] at ci
            have HO := Lib.hid ((okAt_iff ns k hp).2 ⟨hnm, hix⟩)
            clear hix hnm
            refine (ci _ hrow3).mono ?_
            rintro e w3 ⟨rfl, b3⟩
            go_wp2
            go_roundw
            case rel =>
              refine ⟨k + 1, by go_num, by omega, fun j hj => ?_, (HB.out.then b2).then b3⟩
              by_cases e : j = k
              · subst e; exact HO.out
              · exact HA.out j (by omega)
            case measure => simp [intOf]; omega
          · have HF := Lib.hid (show rightL (ns, ps) = false from by
              rw [Bool.eq_false_iff]; intro e
              have h3 := (rightN_iff _).1 ((rightL_iff _).1 e).2.1 k hp
              exact hix ((okAt_iff ns k hp).1 h3).2)
            have fx : (idxL ns ns[k] != (k : Int)) = true := by simpa using hix
            generalize idxL ns ns[k] = z at *
            clear hix hnm
            refine (ci _ hrow3).mono ?_
            rintro e w3 ⟨rfl, b3⟩
            go_wp2
            go_ret
            exact ⟨ret_bool HF.out.symm, (HT.out.then b2).then b3⟩
      · obtain rfl : k = ns.length := by omega
        have HN := Lib.hid ((rightN_iff ns).2 HA.out)
        go_wp2_with fail
        go_loopw [39] (fun i w3 => R2 ns.length ps wr i w3) (fun i _ => ps.length - (intOf i).toNat)
        case atStart => exact ⟨0, rfl, Nat.zero_le _, fun p hp => by simp at hp, Below.refl _ _⟩
        case round =>
          obtain ⟨m, rfl, hm, hall2, hbw2⟩ := hrel
          have hpr3 := hpr2.below hbw2
          have HB2 := Lib.hid hbw2
          have HA2 := Lib.hid hall2
          clear hbw2 hall2
          by_cases hp2 : m < ps.length
          · obtain ⟨b, off, rfl, hb, hc, hc'⟩ := hpr3.at hp2
            have cp := fun w1 => rightPair_any ps[m].1 ps[m].2 ns.length w1
            have HT2 := Lib.hid (List.take_succ_eq_append_getElem hp2)
            have HM := Lib.hid (List.getElem_mem hp2)
            generalize ps[m] = p at *
            obtain ⟨pa, pb⟩ := p
            simp only at *
            cases hpo : pairOk pa pb ns.length with
            | false =>
              rw [hpo] at cp
              have HF := Lib.hid (show rightL (ns, ps) = false from by
                rw [Bool.eq_false_iff]; intro e
                have h3 := (rightP_iff _ _).1 ((rightL_iff _).1 e).2.2 _ HM.out
                simp only at h3
                rw [hpo] at h3; cases h3)
              clear hpo
              go_wp2_with fail
              refine (cp _).mono ?_
              rintro e w4 ⟨rfl, b4⟩
              go_wp2
              go_ret
              exact ⟨ret_bool HF.out.symm, ((HT.out.then HB2.out).then ((Below.refl _ _).alloc (Nat.le_refl _) _)).then b4⟩
            | true =>
              rw [hpo] at cp
              have HP := Lib.hid hpo
              clear hpo
              go_wp2_with fail
              refine (cp _).mono ?_
              rintro e w4 ⟨rfl, b4⟩
              go_wp2
              go_roundw
              case rel =>
                refine ⟨m + 1, by go_num, by omega, fun q hq => ?_, (HB2.out.then ((Below.refl _ _).alloc (Nat.le_refl _) _)).then b4⟩
                rw [HT2.out, List.mem_append, List.mem_singleton] at hq
                rcases hq with hq | rfl
                · exact HA2.out q hq
                · exact HP.out
              case measure => simp [intOf]; omega
          · obtain rfl : m = ps.length := by omega
            have HF := Lib.hid (show rightL (ns, ps) = true from by
              have h3 := HA2.out
              rw [List.take_length] at h3
              exact (rightL_iff _).2 ⟨⟨h1, h2⟩, HN.out, (rightP_iff _ _).2 h3⟩)
            go_wp2
            go_ret
            exact ⟨ret_bool HF.out.symm, HT.out.then HB2.out⟩

end Go.Proofs.YtkcmhdkhdjmjeaaGreatDoor
