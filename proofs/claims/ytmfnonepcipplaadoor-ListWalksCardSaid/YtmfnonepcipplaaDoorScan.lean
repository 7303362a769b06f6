/-
  Pure: the program's walk over a text's beginning, byte by byte, and what strconv.Atoi and strconv.Itoa say, against the plain functions of layer 6.
-/
import Derived.Test.YtmfnonepcipplaaDoorConvs
import Derived.Lib.AtoiAll
import Derived.Lib.ItoaNum
namespace Go.Proofs.YtmfnonepcipplaaDoor.Convs
open Go

/-- Where a byte stands that comes behind one at that place: 0 blanks in front, 1 the sign, 2 digits, 3 blanks behind, 4 outside. -/
def placeT (at_ : Nat) (b : UInt8) : Nat :=
  if digB b && at_ != 3 then 2
  else if blankB b && at_ == 0 then 0
  else if blankB b && at_ != 1 then 3
  else if (b == 43 || b == 45) && at_ == 0 then 1
  else 4

/-- The places of a walk: the place, where the number's text begins, where it ends, how far the walk is. -/
structure Sc where
  at_ : Nat
  a : Nat
  b : Nat
  n : Nat
  deriving DecidableEq

def scan : Sc → L → Sc
  | c, [] => c
  | c, x :: r =>
    let p := placeT c.at_ x
    if p = 4 then c
    else scan ⟨p, if p = 0 then c.n + 1 else c.a, if p = 2 then c.n + 1 else c.b, c.n + 1⟩ r

theorem byte2 (p : UInt8 → Bool) (h : ∀ n : Fin 256, p (UInt8.ofNat n.val) = true) (b : UInt8) : p b = true := byte_all p h b

theorem place_dig (b : UInt8) (h : digB b = true) (c : Nat) (hc : c ≠ 3) : placeT c b = 2 := by
  unfold placeT; rw [h]; simp [hc]
theorem place_dig3 (b : UInt8) (h : digB b = true) : placeT 3 b = 4 := by
  have hb := dig_not_blank b h
  have hs := dig_not_sign b h
  unfold placeT; rw [h, hb]; simp
theorem place_blank0 (b : UInt8) (h : blankB b = true) : placeT 0 b = 0 := by
  have hb := blank_not_dig b h
  unfold placeT; rw [h, hb]; simp
theorem place_blank1 (b : UInt8) (h : blankB b = true) : placeT 1 b = 4 := by
  have hb := blank_not_dig b h
  unfold placeT; rw [h, hb]; simp
theorem place_blank2 (b : UInt8) (h : blankB b = true) : placeT 2 b = 3 := by
  have hb := blank_not_dig b h
  unfold placeT; rw [h, hb]; simp
theorem place_blank3 (b : UInt8) (h : blankB b = true) : placeT 3 b = 3 := by
  have hb := blank_not_dig b h
  unfold placeT; rw [h, hb]; simp
theorem place_else (b : UInt8) (c : Nat) (h : blankB b = false) (hd : digB b = false) (hc : c ≠ 0) : placeT c b = 4 := by
  unfold placeT; rw [h, hd]; simp [hc]
theorem place_else0 (b : UInt8) (h : blankB b = false) (hd : digB b = false) (hs : (b == 43 || b == 45) = false) : placeT 0 b = 4 := by
  unfold placeT; rw [h, hd, hs]; simp
theorem place_sign (b : UInt8) (h : blankB b = false) (hd : digB b = false) (hs : (b == 43 || b == 45) = true) : placeT 0 b = 1 := by
  unfold placeT; rw [h, hd, hs]; simp

theorem scan3 (a b : Nat) : ∀ (l : L) (n : Nat), scan ⟨3, a, b, n⟩ l = ⟨3, a, b, n + (l.takeWhile blankB).length⟩
  | [], n => by simp [scan]
  | x :: l, n => by
    cases h : blankB x
    · cases hd : digB x
      · simp [scan, place_else x 3 h hd (by omega), h]
      · simp [scan, place_dig3 x hd, h]
    · simp [scan, place_blank3 x h, h, scan3 a b l]; omega

theorem scan2 (a : Nat) : ∀ (l : L) (n : Nat),
    let c := scan ⟨2, a, n, n⟩ l
    c.a = a ∧ c.b = n + (l.takeWhile digB).length ∧ c.n = c.b + ((l.dropWhile digB).takeWhile blankB).length
  | [], n => by simp [scan]
  | x :: l, n => by
    cases hd : digB x
    · cases h : blankB x
      · simp [scan, place_else x 2 h hd (by omega), hd, h]
      · simp [scan, place_blank2 x h, hd, h, scan3]; omega
    · have ih := scan2 a l (n + 1)
      simp only at ih
      simp [scan, place_dig x hd 2 (by omega), hd, ih]; omega

/-- Behind the blanks: where the number's text is, and how far it goes. -/
def numLen (l : L) : Nat :=
  let t := signT l
  if (t.2.takeWhile digB).isEmpty then 0 else (l.length - t.2.length) + (t.2.takeWhile digB).length
def endLen (l : L) : Nat :=
  let t := signT l
  (((t.2.dropWhile digB)).takeWhile blankB).length

theorem signT_len (l : L) : (signT l).2.length ≤ l.length := by
  cases l with
  | nil => simp [signT]
  | cons x l => simp only [signT]; repeat' split
                all_goals simp

/-- The walk from its beginning: blanks, then a number's text or none. -/
theorem scan0 : ∀ (l : L) (n : Nat),
    let c := scan ⟨0, n, 0, n⟩ l
    let r := l.dropWhile blankB
    let k := n + (l.takeWhile blankB).length
    c.a = k ∧ (if numLen r = 0 then c.b = 0 else c.b = k + numLen r ∧ c.n = c.b + endLen r)
  | [], n => by simp [scan, numLen, signT]
  | x :: l, n => by
    cases h : blankB x
    · cases hd : digB x
      · cases hs : (x == 43 || x == 45)
        · have h43 : (x == 43) = false := by simp_all
          have h45 : (x == 45) = false := by simp_all
          simp [scan, place_else0 x h hd hs, h, numLen, signT, h43, h45, hd]
        · have hsig : (signT (x :: l)).2 = l := by
            simp only [signT]; repeat' split
            all_goals simp_all
          cases l with
          | nil => simp [scan, place_sign x h hd hs, h, numLen, hsig]
          | cons y l =>
            cases hy : digB y
            · have : placeT 1 y = 4 := by
                cases hb : blankB y
                · exact place_else y 1 hb hy (by omega)
                · exact place_blank1 y hb
              simp [scan, place_sign x h hd hs, this, h, numLen, hsig, hy]
            · have ih := scan2 n l (n + 1 + 1)
              simp only at ih
              simp [scan, place_sign x h hd hs, place_dig y hy 1 (by omega), h, numLen, endLen, hsig, hy, ih]
              omega
      · have hsg := dig_not_sign x hd
        have ih := scan2 n l (n + 1)
        simp only at ih
        simp [scan, place_dig x hd 0 (by omega), h, numLen, endLen, signT, hsg.1, hsg.2, hd, ih]
        omega
    · have ih := scan0 l (n + 1)
      simp only at ih
      simp only [scan, place_blank0 x h, List.dropWhile_cons, List.takeWhile_cons, h, if_true]
      simp only [List.length_cons]
      have e : n + ((l.takeWhile blankB).length + 1) = n + 1 + (l.takeWhile blankB).length := by omega
      rw [if_neg (by decide : ¬ (0 : Nat) = 4), if_neg (by decide : ¬ (0 : Nat) = 2)]
      rw [e]
      exact ih

/-- A number's text alone: a sign or none, digits. -/
def numText (t : L) : Prop := (signT t).2 ≠ [] ∧ ∀ x ∈ (signT t).2, digB x = true

theorem valFrom_ge : ∀ (ds : L) (n : Nat), n ≤ valFrom n ds
  | [], n => Nat.le_refl _
  | d :: ds, n => by
    have := valFrom_ge ds (n * 10 + (d.toNat - 48))
    simp only [valFrom, List.foldl_cons] at *
    omega

theorem digB_iff (c : UInt8) : digB c = true ↔ (48 ≤ c.toNat ∧ c.toNat ≤ 57) := by
  simp only [digB, Bool.and_eq_true, decide_eq_true_eq, UInt8.le_iff_toNat_le]; exact Iff.rfl

theorem parse_digits : ∀ (ds : L) (acc : Nat), (∀ x ∈ ds, digB x = true) → acc < 18446744073709551616 →
    Lib.parseUint10 acc ds = if 18446744073709551616 ≤ valFrom acc ds then .range else .ok (valFrom acc ds)
  | [], acc, _, ha => by
    have hv : valFrom acc [] = acc := rfl
    rw [hv, if_neg (by omega), Lib.parseUint10]
  | c :: r, acc, hd, ha => by
    have hc := (digB_iff c).1 (hd c (List.mem_cons_self ..))
    have hr : ∀ x ∈ r, digB x = true := fun x hx => hd x (List.mem_cons_of_mem _ hx)
    have hge := valFrom_ge r (acc * 10 + (c.toNat - 48))
    have hv : valFrom acc (c :: r) = valFrom (acc * 10 + (c.toNat - 48)) r := rfl
    simp only [Lib.parseUint10]
    rw [if_pos hc, hv]
    by_cases h1 : 1844674407370955162 ≤ acc
    · rw [if_pos h1, if_pos (by omega)]
    · rw [if_neg h1]
      by_cases h2 : 18446744073709551616 ≤ acc * 10 + (c.toNat - 48)
      · rw [if_pos h2, if_pos (by omega)]
      · rw [if_neg h2]
        exact parse_digits r _ hr (by omega)

/-- What Atoi answers, its error left aside. -/
def atoiNum (l : L) : Int :=
  match Lib.atoiAll l with
  | .ok v => v
  | .range => Lib.atoiSat l
  | _ => 0
/-- A text that says a number. -/
def saysNum (l : L) : Prop := (∃ v, Lib.atoiAll l = .ok v) ∨ Lib.atoiAll l = .range

theorem toNat_eq (c : UInt8) (k : Nat) (hk : k < 256) : (c == UInt8.ofNat k) = decide (c.toNat = k) := by
  rw [Bool.eq_iff_iff]; simp only [beq_iff_eq, decide_eq_true_eq]
  constructor
  · rintro rfl; simp; omega
  · intro h; subst h; simp

theorem atoi_num (t : L) (h : numText t) :
    saysNum t ∧ atoiNum t = clamp (if (signT t).1 then -(val (signT t).2 : Int) else (val (signT t).2 : Int)) := by
  obtain ⟨h1, h2⟩ := h
  cases t with
  | nil => simp [signT] at h1
  | cons c r =>
    have e45 : (c == 45) = decide (c.toNat = 45) := toNat_eq c 45 (by omega)
    have e43 : (c == 43) = decide (c.toNat = 43) := toNat_eq c 43 (by omega)
    have hsig : signT (c :: r) = (decide (c.toNat = 45), if c.toNat = 43 ∨ c.toNat = 45 then r else c :: r) := by
      simp only [signT, e45, e43]
      by_cases a : c.toNat = 45
      · simp [a]
      · by_cases b : c.toNat = 43
        · simp [b]
        · simp [a, b]
    rw [hsig] at h1 h2 ⊢
    simp only at h1 h2 ⊢
    generalize hm : (if c.toNat = 43 ∨ c.toNat = 45 then r else c :: r) = m at h1 h2 ⊢
    have hp := parse_digits m 0 h2 (by omega)
    have hmag : Lib.parseMag m = if 18446744073709551616 ≤ val m then .range else .ok (val m) := by
      unfold Lib.parseMag; rw [if_neg h1]; exact hp
    have hall : ∀ u, Lib.parseMag m = .ok u → Lib.atoiAll (c :: r) = if ¬ c.toNat = 45 ∧ 9223372036854775808 ≤ u then .range else if c.toNat = 45 ∧ 9223372036854775808 < u then .range else .ok (if c.toNat = 45 then -(u : Int) else u) := by
      intro u hu
      rw [← hm] at hu
      simp only [Lib.atoiAll, hu]
    have hrng : Lib.parseMag m = .range → Lib.atoiAll (c :: r) = .range := by
      intro hu
      rw [← hm] at hu
      simp only [Lib.atoiAll, hu]
    have hsat : Lib.atoiSat (c :: r) = if c.toNat = 45 then least else most := by
      simp [Lib.atoiSat, least, most]
    generalize val m = u at *
    by_cases hu : 18446744073709551616 ≤ u
    · rw [if_pos hu] at hmag
      have h3 := hrng hmag
      refine ⟨.inr h3, ?_⟩
      unfold atoiNum
      rw [h3, hsat]
      unfold clamp least most
      by_cases hn : c.toNat = 45 <;> simp [hn] <;> (repeat' split) <;> omega
    · rw [if_neg hu] at hmag
      have h3 := hall u hmag
      unfold saysNum atoiNum
      rw [h3, hsat]
      unfold clamp least most
      by_cases hn : c.toNat = 45 <;> by_cases hv : 9223372036854775808 ≤ u <;> by_cases hw : 9223372036854775808 < u <;>
        simp [hn, hv, hw] <;> (try omega) <;> (repeat' split) <;> (try omega)

theorem decDigits_eq' (n : Nat) : Lib.decDigits n = natDig n := by
  induction n using Nat.strongRecOn with
  | _ n ih =>
    by_cases h : n < 10
    · rw [natDig_small n h, Lib.decDigits, dif_pos h]
    · rw [natDig_step n h, Lib.decDigits, dif_neg h, ih (n / 10) (by omega)]
theorem itoa_eq (n : Int) : Lib.itoa n = digitsT n := by
  unfold Lib.itoa digitsT
  split
  · rw [decDigits_eq']
  · rw [decDigits_eq', show n.toNat = n.natAbs from by omega]

theorem mem_take (p : UInt8 → Bool) : ∀ (l : L) (x : UInt8), x ∈ l.takeWhile p → p x = true
  | [], x, h => by simp at h
  | y :: l, x, h => by
    cases hy : p y
    · simp [hy] at h
    · simp only [List.takeWhile_cons, hy, if_true, List.mem_cons] at h
      rcases h with rfl | h
      · exact hy
      · exact mem_take p l x h

/-- What the program takes for the number's text is one, and what stands behind its reach is what is left. -/
theorem begT_scan (s : L) :
    let c := scan ⟨0, 0, 0, 0⟩ s
    (if c.b = 0 then begT s = none
     else c.a ≤ c.b ∧ c.b ≤ c.n ∧ c.n ≤ s.length ∧ begT s = some (atoiNum ((s.drop c.a).take (c.b - c.a)), s.drop c.n) ∧ saysNum ((s.drop c.a).take (c.b - c.a))) := by
  have h0 := scan0 s 0
  simp only at h0 ⊢
  generalize scan ⟨0, 0, 0, 0⟩ s = c at h0 ⊢
  have hsplit := List.takeWhile_append_dropWhile (p := blankB) (l := s)
  have hlen : s.length = (s.takeWhile blankB).length + (s.dropWhile blankB).length := by
    have := congrArg List.length hsplit; rw [List.length_append] at this; omega
  have hdrop : s.drop (s.takeWhile blankB).length = s.dropWhile blankB := by
    have := congrArg (List.drop (s.takeWhile blankB).length) hsplit
    rw [List.drop_left] at this; exact this.symm
  generalize hr : s.dropWhile blankB = r at *
  generalize hk : (s.takeWhile blankB).length = k at *
  obtain ⟨ha, hb⟩ := h0
  have hsl := signT_len r
  have hsplit2 := List.takeWhile_append_dropWhile (p := digB) (l := (signT r).2)
  have hlen2 : (signT r).2.length = ((signT r).2.takeWhile digB).length + ((signT r).2.dropWhile digB).length := by
    have := congrArg List.length hsplit2; rw [List.length_append] at this; omega
  have hlen3 : (((signT r).2.dropWhile digB)).length = (((signT r).2.dropWhile digB).takeWhile blankB).length + (((signT r).2.dropWhile digB).dropWhile blankB).length := by
    have := congrArg List.length (List.takeWhile_append_dropWhile (p := blankB) (l := (signT r).2.dropWhile digB)); rw [List.length_append] at this; omega
  have hbeg : begT s = if ((signT r).2.takeWhile digB).isEmpty then none else some (clamp (if (signT r).1 then -(val ((signT r).2.takeWhile digB) : Int) else (val ((signT r).2.takeWhile digB) : Int)), ((signT r).2.dropWhile digB).dropWhile blankB) := by
    unfold begT; rw [hr]
  by_cases he : ((signT r).2.takeWhile digB).isEmpty = true
  · have hn : numLen r = 0 := by unfold numLen; simp only [he, if_true]
    rw [hn] at hb; simp only [if_true] at hb
    rw [if_pos hb, hbeg, if_pos he]
  · have hne : (signT r).2.takeWhile digB ≠ [] := by simpa using he
    have hpos : 0 < ((signT r).2.takeWhile digB).length := List.length_pos_iff.2 hne
    have hn : numLen r = (r.length - (signT r).2.length) + ((signT r).2.takeWhile digB).length := by
      unfold numLen; simp only [he]; rfl
    rw [if_neg (by omega)] at hb
    have hE : endLen r = (((signT r).2.dropWhile digB).takeWhile blankB).length := rfl
    rw [if_neg (by omega), hbeg, if_neg he]
    -- the sign's part
    obtain ⟨sg, hsg⟩ : ∃ sg, r = sg ++ (signT r).2 ∧ signT (sg ++ (signT r).2.takeWhile digB) = ((signT r).1, (signT r).2.takeWhile digB) := by
      cases hr2 : r with
      | nil => rw [hr2] at hne; simp [signT] at hne
      | cons x r' =>
        by_cases x45 : (x == 45) = true
        · exact ⟨[x], by simp [signT, x45], by simp [signT, x45]⟩
        · by_cases x43 : (x == 43) = true
          · exact ⟨[x], by simp [signT, x45, x43], by simp [signT, x45, x43]⟩
          · refine ⟨[], by simp [signT, x45, x43], ?_⟩
            have hs : (signT (x :: r')).2 = x :: r' := by simp [signT, x45, x43]
            have hs1 : (signT (x :: r')).1 = false := by simp [signT, x45, x43]
            rw [hr2, hs] at hne
            rw [hs, hs1]
            have hx : digB x = true := by
              cases hx : digB x
              · simp [hx] at hne
              · rfl
            simp only [List.nil_append, List.takeWhile_cons, hx, if_true, signT, x45, x43]
            rfl
    obtain ⟨hsg1, hsg2⟩ := hsg
    have hsgl : sg.length = r.length - (signT r).2.length := by
      have := congrArg List.length hsg1; rw [List.length_append] at this; omega
    have htxt : (s.drop c.a).take (c.b - c.a) = sg ++ (signT r).2.takeWhile digB := by
      rw [ha, Nat.zero_add, hdrop]
      have e1 : c.b - k = (sg ++ (signT r).2.takeWhile digB).length := by rw [List.length_append, hsgl, hb.1]; omega
      have e2 : r = (sg ++ (signT r).2.takeWhile digB) ++ (signT r).2.dropWhile digB := by
        rw [List.append_assoc, hsplit2]; exact hsg1
      rw [e1]
      exact (congrArg (List.take _) e2).trans List.take_left
    have hrest : s.drop c.n = ((signT r).2.dropWhile digB).dropWhile blankB := by
      have e2 : r = (sg ++ (signT r).2.takeWhile digB) ++ (((signT r).2.dropWhile digB).takeWhile blankB ++ ((signT r).2.dropWhile digB).dropWhile blankB) := by
        rw [List.takeWhile_append_dropWhile, List.append_assoc, hsplit2]; exact hsg1
      have e1 : c.n = k + (sg ++ (signT r).2.takeWhile digB ++ ((signT r).2.dropWhile digB).takeWhile blankB).length := by
        rw [List.length_append, List.length_append, hsgl, hb.2, hE, hb.1]; omega
      rw [e1, ← List.drop_drop, hdrop]
      rw [← List.append_assoc] at e2
      exact (congrArg (List.drop _) e2).trans List.drop_left
    have hnt : numText (sg ++ (signT r).2.takeWhile digB) := by
      refine ⟨by rw [hsg2]; exact hne, ?_⟩
      rw [hsg2]
      intro x hx
      exact mem_take digB _ x hx
    have hat := atoi_num _ hnt
    rw [hsg2] at hat
    refine ⟨by omega, by omega, ?_, ?_, ?_⟩
    · omega
    · rw [htxt, hrest, hat.2]
    · rw [htxt]; exact hat.1
end Go.Proofs.YtmfnonepcipplaaDoor.Convs
