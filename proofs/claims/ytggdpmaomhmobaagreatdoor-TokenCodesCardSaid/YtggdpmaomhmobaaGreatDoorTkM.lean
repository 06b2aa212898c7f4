/-
  Plain facts for the laws of the layer token: links, tags, entities.
-/
import Derived.Test.YtggdpmaomhmobaaGreatDoorTkL
namespace Go.Proofs.YtggdpmaomhmobaaGreatDoor
open Go.RowKit
set_option linter.unusedSimpArgs false
set_option linter.unusedVariables false

/-- What sort a token is of. -/
def kindTk : Tk → Nat
  | .no => 0
  | .word _ => 119
  | .code _ => 99
  | .tag _ => 116
  | .auto _ _ => 97
  | .run _ _ => 114
  | .mark _ => 109
  | .brk _ => 98
  | .atom _ => 120

def lowB (b : UInt8) : Bool := inR b.toNat 97 122
theorem low_letter {b : UInt8} (h : lowB b = true) : tkLetter b = true := by
  unfold tkLetter tkLetterI
  rw [show inR b.toNat 97 122 = true from h, Bool.or_true]
theorem low_scheme {b : UInt8} (h : lowB b = true) : tkScheme b = true := by
  have := low_letter h
  unfold tkLetter at this
  unfold tkScheme tkSchemeI
  rw [this]; simp
theorem low_tagName {b : UInt8} (h : lowB b = true) : tkTagName b = true := by
  have := low_letter h
  unfold tkLetter at this
  unfold tkTagName tkTagNameI
  rw [this]; simp
theorem low_host {b : UInt8} (h : lowB b = true) : tkHost b = true := by
  have := low_tagName h
  unfold tkTagName at this
  unfold tkHost tkHostI
  rw [this]; simp
theorem low_mail {b : UInt8} (h : lowB b = true) : tkMail b = true := by
  have := low_host h
  unfold tkHost at this
  unfold tkMail tkMailI
  rw [this]; simp
theorem low_url {b : UInt8} (h : lowB b = true) : tkUrl b = true := by
  have := (inR_iff _ _ _).1 (show inR b.toNat 97 122 = true from h)
  unfold tkUrl tkUrlI
  simp only [Bool.and_eq_true, decide_eq_true_eq, bne_iff_ne, ne_eq]
  omega
theorem low_ne47 {b : UInt8} (h : lowB b = true) : (b == 47) = false := by
  have := (inR_iff _ _ _).1 (show inR b.toNat 97 122 = true from h)
  rw [beq_eq_false_iff_ne]
  rintro rfl
  simp at this
theorem point_url (l : List UInt8) (e : Nat) (ha : addressL l = e) (he : e ≠ 0) (hh : hasL l e 62 = true) : pointedL l = (.auto ((l.take e).drop 1) ((l.take e).drop 1), e + 1) := by
  have : betweenL l (addressL l) = ((l.take e).drop 1, e + 1) := by
    rw [ha]
    unfold betweenL
    rw [if_neg (by simp [he, hh])]
  unfold pointedL
  rw [this]
  simp
theorem no_between (l : List UInt8) (e : Nat) (h : e = 0 ∨ hasL l e 62 = false) : betweenL l e = ([], 0) := by
  unfold betweenL
  rw [if_pos h]
theorem point_mail (l : List UInt8) (e : Nat) (ha : betweenL l (addressL l) = ([], 0)) (hm : mailboxL l = e) (he : e ≠ 0) (hh : hasL l e 62 = true) : pointedL l = (.auto (tkMailto ++ (l.take e).drop 1) ((l.take e).drop 1), e + 1) := by
  have : betweenL l (mailboxL l) = ((l.take e).drop 1, e + 1) := by
    rw [hm]
    unfold betweenL
    rw [if_neg (by simp [he, hh])]
  unfold pointedL
  rw [ha, this]
  simp
theorem point_tag (l : List UInt8) (ha : betweenL l (addressL l) = ([], 0)) (hm : betweenL l (mailboxL l) = ([], 0)) : pointedL l = (.tag (l.take (betweenL l (tagL l)).2), (betweenL l (tagL l)).2) := by
  unfold pointedL
  rw [ha, hm]
  simp
theorem first_point (l : List UInt8) : firstTk (60 :: l) = pointedL (60 :: l) := by
  unfold firstTk
  simp
theorem next_point (l : List UInt8) (r : Tk × Nat) (h : pointedL (60 :: l) = r) (h2 : r.2 ≠ 0) : nextL (60 :: l) = r := by
  unfold nextL
  rw [first_point, h, if_neg h2]
theorem next_point_no (l : List UInt8) (h : (pointedL (60 :: l)).2 = 0) : kindTk (nextL (60 :: l)).1 = 119 := by
  unfold nextL
  rw [first_point, if_pos h]
  rfl
theorem cons_one (c : UInt8) (l : List UInt8) : c :: l = [c] ++ l := rfl
theorem getE_one (c : UInt8) (a r : List UInt8) (ha : a ≠ []) (h : ∀ b ∈ a, lowB b = true) : (((c :: (a ++ r))[1]?).map tkLetter).getD false = true := by
  cases a with
  | nil => exact absurd rfl ha
  | cons x a => simpa using low_letter (h x (by simp))
theorem past_low (p : UInt8 → Bool) (hp : ∀ b, lowB b = true → p b = true) (x a : List UInt8) (c : UInt8) (r : List UInt8) (k : Nat) (hk : x.length = k) (h : ∀ b ∈ a, lowB b = true) (hc : p c = false) :
    pastL p (x ++ (a ++ c :: r)) k = k + a.length := past_at p x a (c :: r) k hk (fun b hb => hp b (h b hb)) (by intro b hb; simp at hb; subst hb; exact hc)
theorem hasL_at2 (x a r : List UInt8) (c b : UInt8) (k : Nat) (hk : x.length + a.length = k) : hasL (x ++ (a ++ c :: r)) k b = (c == b) := by
  rw [← List.append_assoc]
  exact hasL_at (x ++ a) r c b k (by simp; omega)
/-- Behind letters something stands that is no ':': no url. -/
theorem no_addr (a r : List UInt8) (c : UInt8) (h : ∀ b ∈ a, lowB b = true) (hc : tkScheme c = false) (hc2 : (c == 58) = false) : addressL (60 :: (a ++ c :: r)) = 0 := by
  have hp := past_low tkScheme (fun b => low_scheme) [60] a c r 1 rfl h hc
  have hh := hasL_at2 [60] a r c 58 (1 + a.length) (by simp)
  rw [← cons_one] at hp hh
  unfold addressL
  simp only
  rw [hp, hh, hc2]
  simp
theorem no_mail (a r : List UInt8) (c : UInt8) (h : ∀ b ∈ a, lowB b = true) (hc : tkMail c = false) (hc2 : (c == 64) = false) : mailboxL (60 :: (a ++ c :: r)) = 0 := by
  have hp := past_low tkMail (fun b => low_mail) [60] a c r 1 rfl h hc
  have hh := hasL_at2 [60] a r c 64 (1 + a.length) (by simp)
  rw [← cons_one] at hp hh
  unfold mailboxL
  simp only
  rw [hp, hh, hc2]
  simp
theorem addr_at (a q r : List UInt8) (c : UInt8) (ha2 : 2 ≤ a.length) (ha3 : a.length ≤ 32) (h : ∀ b ∈ a, lowB b = true) (hq : ∀ b ∈ q, lowB b = true) (hc : tkUrl c = false) :
    addressL (60 :: (a ++ 58 :: (q ++ c :: r))) = 2 + a.length + q.length := by
  have hp := past_low tkScheme (fun b => low_scheme) [60] a 58 (q ++ c :: r) 1 rfl h (by decide)
  have hh := hasL_at2 [60] a (q ++ c :: r) 58 58 (1 + a.length) (by simp)
  have hg := getE_one 60 a (58 :: (q ++ c :: r)) (by intro e; subst e; simp at ha2) h
  have hu := past_low tkUrl (fun b => low_url) (60 :: (a ++ [58])) q c r (1 + a.length + 1) (by simp; omega) hq hc
  rw [show (60 :: (a ++ [58])) ++ (q ++ c :: r) = 60 :: (a ++ 58 :: (q ++ c :: r)) from by simp] at hu
  rw [← cons_one] at hp hh
  unfold addressL
  simp only
  rw [hp, hh, hg, hu, if_neg (by simp; omega)]
  omega
theorem take_drop1 (a q r : List UInt8) (c d : UInt8) (e : Nat) (he : e = 2 + a.length + q.length) : ((60 :: (a ++ d :: (q ++ c :: r))).take e).drop 1 = a ++ d :: q := by
  subst he
  rw [show 60 :: (a ++ d :: (q ++ c :: r)) = (60 :: (a ++ d :: q)) ++ c :: r from by simp, List.take_left' (by simp; omega)]
  rfl
theorem next_url (a q r : List UInt8) (ha2 : 2 ≤ a.length) (ha3 : a.length ≤ 32) (h : ∀ b ∈ a, lowB b = true) (hq : ∀ b ∈ q, lowB b = true) :
    nextL (60 :: (a ++ 58 :: (q ++ 62 :: r))) = (.auto (a ++ 58 :: q) (a ++ 58 :: q), a.length + 1 + q.length + 2) := by
  have ha := addr_at a q r 62 ha2 ha3 h hq (by decide)
  have hh := hasL_at2 (60 :: (a ++ [58])) q r 62 62 (2 + a.length + q.length) (by simp; omega)
  rw [show (60 :: (a ++ [58])) ++ (q ++ 62 :: r) = 60 :: (a ++ 58 :: (q ++ 62 :: r)) from by simp] at hh
  have hp := point_url _ _ ha (by omega) (by rw [hh]; rfl)
  rw [take_drop1 a q r 62 58 _ rfl] at hp
  rw [next_point _ _ hp (by simp)]
  congr 1
  omega
theorem mail_at (a q r : List UInt8) (c : UInt8) (ha : a ≠ []) (hqn : q ≠ []) (h : ∀ b ∈ a, lowB b = true) (hq : ∀ b ∈ q, lowB b = true) (hc : tkHost c = false) :
    mailboxL (60 :: (a ++ 64 :: (q ++ c :: r))) = 2 + a.length + q.length := by
  have hp := past_low tkMail (fun b => low_mail) [60] a 64 (q ++ c :: r) 1 rfl h (by decide)
  have hh := hasL_at2 [60] a (q ++ c :: r) 64 64 (1 + a.length) (by simp)
  have hu := past_low tkHost (fun b => low_host) (60 :: (a ++ [64])) q c r (1 + a.length + 1) (by simp; omega) hq hc
  rw [show (60 :: (a ++ [64])) ++ (q ++ c :: r) = 60 :: (a ++ 64 :: (q ++ c :: r)) from by simp] at hu
  rw [← cons_one] at hp hh
  have l1 := List.length_pos_iff.2 ha
  have l2 := List.length_pos_iff.2 hqn
  unfold mailboxL
  simp only
  rw [hp, hh, hu, if_neg (by simp; omega), if_neg (by omega)]
  omega
theorem next_mail (a q r : List UInt8) (ha : a ≠ []) (hqn : q ≠ []) (h : ∀ b ∈ a, lowB b = true) (hq : ∀ b ∈ q, lowB b = true) :
    nextL (60 :: (a ++ 64 :: (q ++ 62 :: r))) = (.auto (tkMailto ++ (a ++ 64 :: q)) (a ++ 64 :: q), a.length + 1 + q.length + 2) := by
  have hm := mail_at a q r 62 ha hqn h hq (by decide)
  have hn := no_between (60 :: (a ++ 64 :: (q ++ 62 :: r))) _ (Or.inl (no_addr a (q ++ 62 :: r) 64 h (by decide) (by decide)))
  have hh := hasL_at2 (60 :: (a ++ [64])) q r 62 62 (2 + a.length + q.length) (by simp; omega)
  rw [show (60 :: (a ++ [64])) ++ (q ++ 62 :: r) = 60 :: (a ++ 64 :: (q ++ 62 :: r)) from by simp] at hh
  have hp := point_mail _ _ hn hm (by omega) (by rw [hh]; rfl)
  rw [take_drop1 a q r 62 64 _ rfl] at hp
  rw [next_point _ _ hp (by simp)]
  congr 1
  omega
theorem kind_point (l : List UInt8) (ha : betweenL (60 :: l) (addressL (60 :: l)) = ([], 0)) (hm : betweenL (60 :: l) (mailboxL (60 :: l)) = ([], 0)) : kindTk (nextL (60 :: l)).1 ≠ 97 := by
  by_cases h : (pointedL (60 :: l)).2 = 0
  · rw [next_point_no l h]; decide
  · rw [next_point l _ rfl h, point_tag _ ha hm]
    exact (by decide : (116 : Nat) ≠ 97)
theorem no_url (a q r : List UInt8) (ha2 : 2 ≤ a.length) (ha3 : a.length ≤ 32) (h : ∀ b ∈ a, lowB b = true) (hq : ∀ b ∈ q, lowB b = true) :
    kindTk (nextL (60 :: (a ++ 58 :: (q ++ 32 :: r)))).1 ≠ 97 := by
  have ha := addr_at a q r 32 ha2 ha3 h hq (by decide)
  have hh := hasL_at2 (60 :: (a ++ [58])) q r 32 62 (2 + a.length + q.length) (by simp; omega)
  rw [show (60 :: (a ++ [58])) ++ (q ++ 32 :: r) = 60 :: (a ++ 58 :: (q ++ 32 :: r)) from by simp] at hh
  exact kind_point _ (no_between _ _ (Or.inr (by rw [ha, hh]; rfl))) (no_between _ _ (Or.inl (no_mail a (q ++ 32 :: r) 58 h (by decide) (by decide))))
theorem no_mailto (a q r : List UInt8) (ha : a ≠ []) (hqn : q ≠ []) (h : ∀ b ∈ a, lowB b = true) (hq : ∀ b ∈ q, lowB b = true) :
    kindTk (nextL (60 :: (a ++ 64 :: (q ++ 32 :: r)))).1 ≠ 97 := by
  have hm := mail_at a q r 32 ha hqn h hq (by decide)
  have hh := hasL_at2 (60 :: (a ++ [64])) q r 32 62 (2 + a.length + q.length) (by simp; omega)
  rw [show (60 :: (a ++ [64])) ++ (q ++ 32 :: r) = 60 :: (a ++ 64 :: (q ++ 32 :: r)) from by simp] at hh
  exact kind_point _ (no_between _ _ (Or.inl (no_addr a (q ++ 32 :: r) 64 h (by decide) (by decide)))) (no_between _ _ (Or.inr (by rw [hm, hh]; rfl)))

/-- How a tag begins. -/
def tagBeg (e : Bool) : List UInt8 := if e then [47] else []
theorem tag_addr (e : Bool) (a r : List UInt8) (c : UInt8) (h : ∀ b ∈ a, lowB b = true) (hc : tkScheme c = false) (hc2 : (c == 58) = false) : addressL (60 :: (tagBeg e ++ (a ++ c :: r))) = 0 := by
  cases e with
  | false => exact no_addr a r c h hc hc2
  | true => exact no_addr [] (a ++ c :: r) 47 (by simp) (by decide) (by decide)
theorem tag_mail (e : Bool) (a r : List UInt8) (c : UInt8) (h : ∀ b ∈ a, lowB b = true) (hc : tkMail c = false) (hc2 : (c == 64) = false) : mailboxL (60 :: (tagBeg e ++ (a ++ c :: r))) = 0 := by
  cases e with
  | false => exact no_mail a r c h hc hc2
  | true => exact no_mail [] (a ++ c :: r) 47 (by simp) (by decide) (by decide)
theorem tag_begin (e : Bool) (a r : List UInt8) (ha : a ≠ []) (h : ∀ b ∈ a, lowB b = true) :
    (if hasL (60 :: (tagBeg e ++ (a ++ r))) 1 47 then 2 else 1) = 1 + (tagBeg e).length ∧ (((60 :: (tagBeg e ++ (a ++ r)))[1 + (tagBeg e).length]?).map tkLetter).getD false = true := by
  cases a with
  | nil => exact absurd rfl ha
  | cons x a =>
    have hx := h x (by simp)
    have hl := low_letter hx
    have h47 := low_ne47 hx
    cases e with
    | false =>
      have : hasL (60 :: (x :: (a ++ r))) 1 47 = (x == 47) := hasL_at [60] (a ++ r) x 47 1 rfl
      refine ⟨?_, by simpa [tagBeg] using hl⟩
      show (if hasL (60 :: (x :: (a ++ r))) 1 47 then 2 else 1) = 1
      rw [this, h47]; rfl
    | true =>
      have : hasL (60 :: 47 :: (x :: (a ++ r))) 1 47 = ((47 : UInt8) == 47) := hasL_at [60] (x :: (a ++ r)) 47 47 1 rfl
      refine ⟨?_, by simpa [tagBeg] using hl⟩
      show (if hasL (60 :: 47 :: (x :: (a ++ r))) 1 47 then 2 else 1) = 2
      rw [this]; rfl
theorem tag_at (e : Bool) (a r : List UInt8) (c : UInt8) (ha : a ≠ []) (h : ∀ b ∈ a, lowB b = true) (hc : tkTagName c = false) :
    tagL (60 :: (tagBeg e ++ (a ++ c :: r))) = if c == 32 || c == 10 || c == 47 then pastL tkInTag (60 :: (tagBeg e ++ (a ++ c :: r))) (1 + (tagBeg e).length + a.length) else 1 + (tagBeg e).length + a.length := by
  obtain ⟨h1, h2⟩ := tag_begin e a (c :: r) ha h
  have hp := past_low tkTagName (fun b => low_tagName) (60 :: tagBeg e) a c r (1 + (tagBeg e).length) (by simp; omega) h hc
  have hh := fun b => hasL_at2 (60 :: tagBeg e) a r c b (1 + (tagBeg e).length + a.length) (by simp; omega)
  rw [show (60 :: tagBeg e) ++ (a ++ c :: r) = 60 :: (tagBeg e ++ (a ++ c :: r)) from rfl] at hp hh
  unfold tagL
  simp only
  rw [h1, h2, if_neg (by simp; omega), hp, hh, hh, hh]
theorem next_tag (e : Bool) (a q r : List UInt8) (ha : a ≠ []) (h : ∀ b ∈ a, lowB b = true) (hq : ∀ b ∈ q, tkInTag b = true) :
    nextL (60 :: (tagBeg e ++ (a ++ 32 :: (q ++ 62 :: r)))) = (.tag (60 :: (tagBeg e ++ (a ++ 32 :: (q ++ [62])))), (1 + (tagBeg e).length + a.length) + q.length + 2) := by
  have ht := tag_at e a (q ++ 62 :: r) 32 ha h (by decide)
  rw [if_pos (by decide)] at ht
  have hp := past_at tkInTag (60 :: (tagBeg e ++ a)) (32 :: q) (62 :: r) (1 + (tagBeg e).length + a.length) (by simp; omega) (by
    intro b hb
    rcases List.mem_cons.1 hb with rfl | hb
    · decide
    · exact hq b hb) (by intro b hb; simp at hb; subst hb; decide)
  rw [show (60 :: (tagBeg e ++ a)) ++ ((32 :: q) ++ 62 :: r) = 60 :: (tagBeg e ++ (a ++ 32 :: (q ++ 62 :: r))) from by simp] at hp
  have hh := hasL_at2 (60 :: (tagBeg e ++ a)) (32 :: q) r 62 62 (1 + (tagBeg e).length + a.length + (32 :: q).length) (by simp; omega)
  rw [show (60 :: (tagBeg e ++ a)) ++ ((32 :: q) ++ 62 :: r) = 60 :: (tagBeg e ++ (a ++ 32 :: (q ++ 62 :: r))) from by simp] at hh
  rw [hp] at ht
  have hb : (betweenL (60 :: (tagBeg e ++ (a ++ 32 :: (q ++ 62 :: r)))) (tagL (60 :: (tagBeg e ++ (a ++ 32 :: (q ++ 62 :: r)))))).2 = (1 + (tagBeg e).length + a.length) + q.length + 2 := by
    rw [ht]
    unfold betweenL
    rw [if_neg (by rw [hh]; simp)]
    simp; omega
  have hpt := point_tag (60 :: (tagBeg e ++ (a ++ 32 :: (q ++ 62 :: r)))) (no_between _ _ (Or.inl (tag_addr e a _ 32 h (by decide) (by decide)))) (no_between _ _ (Or.inl (tag_mail e a _ 32 h (by decide) (by decide))))
  rw [hb, show 60 :: (tagBeg e ++ (a ++ 32 :: (q ++ 62 :: r))) = (60 :: (tagBeg e ++ (a ++ 32 :: (q ++ [62])))) ++ r from by simp, List.take_left' (by simp; omega)] at hpt
  rw [show 60 :: (tagBeg e ++ (a ++ 32 :: (q ++ 62 :: r))) = 60 :: ((tagBeg e ++ (a ++ 32 :: (q ++ [62]))) ++ r) from by simp]
  exact next_point _ _ hpt (by simp)
theorem next_tag0 (e : Bool) (a : List UInt8) (ha : a ≠ []) (h : ∀ b ∈ a, lowB b = true) :
    nextL (60 :: (tagBeg e ++ (a ++ [62]))) = (.tag (60 :: (tagBeg e ++ (a ++ [62]))), 1 + (tagBeg e).length + a.length + 1) := by
  have ht := tag_at e a [] 62 ha h (by decide)
  rw [if_neg (by decide)] at ht
  have hh := hasL_at2 (60 :: tagBeg e) a [] 62 62 (1 + (tagBeg e).length + a.length) (by simp; omega)
  rw [show (60 :: tagBeg e) ++ (a ++ [62]) = 60 :: (tagBeg e ++ (a ++ [62])) from rfl] at hh
  have hb : (betweenL (60 :: (tagBeg e ++ (a ++ [62]))) (tagL (60 :: (tagBeg e ++ (a ++ [62]))))).2 = 1 + (tagBeg e).length + a.length + 1 := by
    rw [ht]
    unfold betweenL
    rw [if_neg (by rw [hh]; simp)]
  have hpt := point_tag (60 :: (tagBeg e ++ (a ++ [62]))) (no_between _ _ (Or.inl (tag_addr e a _ 62 h (by decide) (by decide)))) (no_between _ _ (Or.inl (tag_mail e a _ 62 h (by decide) (by decide))))
  rw [hb, List.take_of_length_le (by simp; omega)] at hpt
  exact next_point _ _ hpt (by simp)
theorem next_tag_no (e : Bool) (a q : List UInt8) (ha : a ≠ []) (h : ∀ b ∈ a, lowB b = true) (hq : ∀ b ∈ q, tkInTag b = true) :
    kindTk (nextL (60 :: (tagBeg e ++ (a ++ 32 :: q)))).1 = 119 := by
  have ht := tag_at e a q 32 ha h (by decide)
  rw [if_pos (by decide)] at ht
  have hp := past_at tkInTag (60 :: (tagBeg e ++ a)) (32 :: q) [] (1 + (tagBeg e).length + a.length) (by simp; omega) (by
    intro b hb
    rcases List.mem_cons.1 hb with rfl | hb
    · decide
    · exact hq b hb) (by simp)
  rw [List.append_nil, show (60 :: (tagBeg e ++ a)) ++ (32 :: q) = 60 :: (tagBeg e ++ (a ++ 32 :: q)) from by simp] at hp
  rw [hp] at ht
  have hh := hasL_end (60 :: (tagBeg e ++ (a ++ 32 :: q))) 62 (1 + (tagBeg e).length + a.length + (32 :: q).length) (by simp; omega)
  have hpt := point_tag (60 :: (tagBeg e ++ (a ++ 32 :: q))) (no_between _ _ (Or.inl (tag_addr e a _ 32 h (by decide) (by decide)))) (no_between _ _ (Or.inl (tag_mail e a _ 32 h (by decide) (by decide))))
  rw [no_between _ _ (Or.inr (by rw [ht]; exact hh))] at hpt
  exact next_point_no _ (by rw [hpt])

/-- Entities. -/
theorem nameGo_low : ∀ (a r : List UInt8) (i : Nat), (∀ b ∈ a, lowB b = true) → nameGo (a ++ 59 :: r) i = some (i + a.length)
  | [], r, i, _ => by rw [List.nil_append, nameGo, if_pos (by decide)]; rfl
  | b :: a, r, i, h => by
    have hb := h b (by simp)
    have hb2 := (inR_iff _ _ _).1 (show inR b.toNat 97 122 = true from hb)
    rw [List.cons_append, nameGo, if_neg (by omega), if_pos (show isLow b = true from hb), nameGo_low a r (i + 1) (fun x hx => h x (by simp [hx]))]
    simp; omega
theorem atL_name (a r : List UInt8) (h : ∀ b ∈ a, lowB b = true) : atL (38 :: (a ++ 59 :: r)) = nameOf (a ++ 59 :: r) a.length := by
  have h35 : ∀ p : List UInt8, Lib.hasPrefix (38 :: (a ++ 59 :: r)) (38 :: 35 :: p) = false := by
    intro p
    unfold Lib.hasPrefix
    cases a with
    | nil => rfl
    | cons x a =>
      have hx := (inR_iff _ _ _).1 (show inR x.toNat 97 122 = true from h x (by simp))
      have : ((35 : UInt8) == x) = false := by rw [beq_eq_false_iff_ne]; rintro rfl; simp at hx
      simp [List.isPrefixOf, this]
  unfold atL
  rw [h35, h35, h35, if_neg (by simp), if_neg (by simp), if_neg (by simp), if_pos (by simp [Lib.hasPrefix, List.isPrefixOf])]
  unfold nameAt
  rw [show (38 :: (a ++ 59 :: r)).drop 1 = a ++ 59 :: r from rfl, nameGo_low a r 0 h]
  simp only [Nat.zero_add]
theorem word_low (b : UInt8) (h : lowB b = true) : tkWord b = true := by
  have hb := (inR_iff _ _ _).1 (show inR b.toNat 97 122 = true from h)
  have hm : b ∉ tkStops := by
    intro hm
    simp [tkStops] at hm
    rcases hm with rfl | rfl | rfl | rfl | rfl | rfl | rfl | rfl | rfl | rfl | rfl | rfl <;> simp at hb
  unfold tkWord
  have : ∀ l : List UInt8, b ∉ l → Lib.indexByte l b = -1 := by
    intro l
    induction l with
    | nil => intro _; rfl
    | cons x l ih =>
      intro hx
      have hx1 : (x == b) = false := by rw [beq_eq_false_iff_ne]; rintro rfl; exact hx (by simp)
      rw [Lib.indexByte, hx1, ih (fun h => hx (by simp [h]))]
      rfl
  rw [this tkStops hm]
  decide
theorem first_named (l : List UInt8) : firstTk (38 :: l) = namedTk (38 :: l) := by
  unfold firstTk
  simp
theorem next_entity (a r t : List UInt8) (h : ∀ b ∈ a, lowB b = true) (hl : lookL a = some t) : nextL (38 :: (a ++ 59 :: r)) = (.word t, a.length + 2) := by
  have e : namedTk (38 :: (a ++ 59 :: r)) = (.word t, a.length + 2) := by
    unfold namedTk
    rw [atL_name a r h]
    unfold nameOf
    rw [List.take_left' rfl, hl]
    simp; omega
  unfold nextL
  rw [first_named, e, if_neg (by simp)]
theorem next_entity_no (a r : List UInt8) (h : ∀ b ∈ a, lowB b = true) (hr : ∀ b ∈ r, lowB b = true) (hl : lookL a = none) :
    nextL (38 :: (a ++ 59 :: r)) = (.word (38 :: (a ++ 59 :: r)), a.length + r.length + 2) := by
  have e : (namedTk (38 :: (a ++ 59 :: r))).2 = 0 := by
    unfold namedTk
    rw [atL_name a r h]
    unfold nameOf
    rw [List.take_left' rfl, hl]
  have hp := past_at tkWord [38] (a ++ 59 :: r) [] 1 rfl (by
    intro b hb
    rcases List.mem_append.1 hb with hb | hb
    · exact word_low b (h b hb)
    · rcases List.mem_cons.1 hb with rfl | hb
      · decide +kernel
      · exact word_low b (hr b hb)) (by simp)
  rw [List.append_nil, ← cons_one] at hp
  unfold nextL
  rw [first_named, if_pos e]
  unfold wordTk
  rw [show (38 :: (a ++ 59 :: r)).headD 1 = 38 from rfl, if_neg (by decide), hp]
  simp only
  rw [List.take_of_length_le (by simp; omega)]
  congr 1
  simp; omega
end Go.Proofs.YtggdpmaomhmobaaGreatDoor
