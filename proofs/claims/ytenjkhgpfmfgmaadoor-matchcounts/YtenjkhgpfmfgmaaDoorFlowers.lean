/- Ways by pairs and pointers, flowers: plain mathematics. A flower more, a node more, what a search that ends shows, and a way that is turned: plain mathematics. What a search that ends shows (a trap), and ways that are turned: plain mathematics. -/
import Derived.Below
import Derived.Test.YtenjkhgpfmfgmaaDoorWalk0
namespace Go.Proofs.YtenjkhgpfmfgmaaDoor

/-- From y one goes to its mate and on by the pointer, again and again: the nodes y, .. on the way to t. -/
def Way (m f : Nat → Option Nat) : Nat → List Nat → Nat → Prop
  | y, [], t => y = t
  | y, a :: l, t => a = y ∧ ∃ x w, m y = some x ∧ f x = some w ∧ Way m f w l t

theorem Way.append {m f : Nat → Option Nat} : ∀ {l l' : List Nat} {a b c : Nat}, Way m f a l b → Way m f b l' c → Way m f a (l ++ l') c
  | [], l', a, b, c, h, h' => by
    have : a = b := h
    subst this; exact h'
  | d :: l, l', a, b, c, ⟨h1, x, w, h2, h3, h4⟩, h' => ⟨h1, x, w, h2, h3, Way.append h4 h'⟩

theorem Way.congr {m f g : Nat → Option Nat} : ∀ {l : List Nat} {a b : Nat}, (∀ z ∈ l, ∀ x, m z = some x → g x = f x) → Way m f a l b → Way m g a l b
  | [], _, _, _, h => h
  | d :: l, a, b, hc, ⟨h1, x, w, h2, h3, h4⟩ => ⟨h1, x, w, h2, by rw [hc d (by simp) x (h1 ▸ h2)]; exact h3, Way.congr (fun z hz => hc z (by simp [hz])) h4⟩

theorem Way.congrM {m n f : Nat → Option Nat} : ∀ {l : List Nat} {a b : Nat}, (∀ z ∈ l, n z = m z) → Way m f a l b → Way n f a l b
  | [], _, _, _, h => h
  | d :: l, a, b, hc, ⟨h1, x, w, h2, h3, h4⟩ => ⟨h1, x, w, by rw [← h1, hc d (by simp), h1]; exact h2, h3, Way.congrM (fun z hz => hc z (by simp [hz])) h4⟩

theorem Way.suffix {m f : Nat → Option Nat} : ∀ {l : List Nat} {a b y : Nat}, Way m f a l b → y ∈ l → ∃ s, Way m f y (y :: s) b ∧ (∀ z ∈ y :: s, z ∈ l) ∧ (l.Nodup → (y :: s).Nodup)
  | d :: l, a, b, y, h, hy => by
    by_cases e : y = d
    · obtain ⟨h1, h2⟩ := h
      subst e; subst h1
      exact ⟨l, ⟨rfl, h2⟩, fun z hz => hz, fun hn => hn⟩
    · obtain ⟨h1, x, w, h2, h3, h4⟩ := h
      obtain ⟨s, hs, hm, hn⟩ := Way.suffix h4 ((List.mem_cons.1 hy).resolve_left e)
      exact ⟨s, hs, fun z hz => by simp [hm z hz], fun hd => hn (List.nodup_cons.1 hd).2⟩

theorem Way.head {m f : Nat → Option Nat} {l : List Nat} {a b : Nat} (h : Way m f a l b) (hn : a ≠ b) : a ∈ l := by
  cases l with
  | nil => exact absurd h hn
  | cons d l => simp [h.1]

/-- Matched: m pairs nodes along edges. -/
structure Mat (N : Nat) (E : Nat → Nat → Prop) (m : Nat → Option Nat) : Prop where
  lt : ∀ a b, m a = some b → a < N ∧ b < N
  sym : ∀ a b, m a = some b → m b = some a
  edge : ∀ a b, m a = some b → E a b

theorem Mat.inj {N : Nat} {E : Nat → Nat → Prop} {m : Nat → Option Nat} (h : Mat N E m) {a b c : Nat} (h1 : m a = some c) (h2 : m b = some c) : a = b := by
  have := h.sym _ _ h1
  rw [h.sym _ _ h2] at this
  exact (Option.some.inj this).symm

/-- The way l to t comes to no node twice. -/
structure Simple (m : Nat → Option Nat) (l : List Nat) (t : Nat) : Prop where
  nodup : l.Nodup
  last : t ∉ l
  off : ∀ a ∈ l, ∀ c, m a = some c → c ∉ l ∧ c ≠ t

/-- What is known of a search from r: which nodes are even, pointers, bases; dep: how deep a base lies. -/
structure Srch (N : Nat) (E : Nat → Nat → Prop) (m : Nat → Option Nat) (r : Nat) (ev : Nat → Bool) (f : Nat → Option Nat) (bs : Nat → Nat) (dep : Nat → Nat) : Prop where
  evlt : ∀ v, ev v = true → v < N
  root : ev r = true
  rlone : m r = none
  bb : ∀ v, bs (bs v) = bs v
  be : ∀ v, bs v ≠ v → ev v = true
  ebs : ∀ v, ev v = true → ev (bs v) = true
  edge : ∀ x w, f x = some w → E x w ∧ x < N ∧ w < N
  fev : ∀ x w, f x = some w → ev w = true
  inn : ∀ y, ev y = true → ∃ l, Way m f y l (bs y) ∧ Simple m l (bs y) ∧ (∀ z ∈ l, bs z = bs y) ∧ ∀ z ∈ l, ∀ x, m z = some x → bs x = bs y
  out : ∀ y, ev y = true → bs y = y → (y = r) ∨ ∃ x w, m y = some x ∧ ev x = false ∧ f x = some w ∧ dep (bs w) < dep y
  odd : ∀ x w, ev x = false → f x = some w → ∃ y, m x = some y ∧ ev y = true ∧ bs y = y

section srch
variable {N : Nat} {E : Nat → Nat → Prop} {m : Nat → Option Nat} {r : Nat} {ev : Nat → Bool} {f : Nat → Option Nat} {bs dep : Nat → Nat}

theorem Srch.cls (h : Srch N E m r ev f bs dep) {x y : Nat} (hy : ev y = true) (e : bs x = bs y) : ev x = true := by
  by_cases hx : bs x = x
  · rw [← hx, e]; exact h.ebs y hy
  · exact h.be x hx
theorem Srch.odd_base (h : Srch N E m r ev f bs dep) {x : Nat} (hx : ev x = false) : bs x = x := by
  by_cases e : bs x = x
  · exact e
  · rw [h.be x e] at hx; cases hx
theorem Srch.start (hr : r < N) (hl : m r = none) : Srch N E m r (fun v => v == r) (fun _ => none) (fun v => v) (fun _ => 0) where
  evlt := fun v h => by simp at h; omega
  root := by simp
  rlone := hl
  bb := fun _ => rfl
  be := fun v h => absurd rfl h
  ebs := fun _ h => h
  edge := fun _ _ h => by cases h
  fev := fun _ _ h => by cases h
  inn := fun y _ => ⟨[], rfl, ⟨List.nodup_nil, by simp, by simp⟩, by simp, by simp⟩
  out := fun y h _ => Or.inl (by simpa using h)
  odd := fun _ _ _ h => by cases h

/-- The bases on the way from y to b. -/
def Chain (m f : Nat → Option Nat) (bs : Nat → Nat) : Nat → List Nat → Nat → Prop
  | y, [], b => bs y = b
  | y, a :: l, b => a = bs y ∧ ∃ x w, m a = some x ∧ f x = some w ∧ Chain m f bs w l b

/-- A chain leads to the root. -/
theorem Srch.chain (h : Srch N E m r ev f bs dep) : ∀ (n : Nat) (y : Nat), dep (bs y) < n → ev y = true → ∃ l, Chain m f bs y l r
  | 0, _, hn, _ => absurd hn (Nat.not_lt_zero _)
  | n + 1, y, hn, hy => by
    rcases h.out (bs y) (h.ebs y hy) (h.bb y) with e | ⟨x, w, h1, h2, h3, h4⟩
    · exact ⟨[], e⟩
    · obtain ⟨l, hl⟩ := Srch.chain h n w (by omega) (h.fev _ _ h3)
      exact ⟨bs y :: l, rfl, x, w, h1, h3, hl⟩

/-- What a chain's way looks like. -/
structure Led (m f : Nat → Option Nat) (bs : Nat → Nat) (ev : Nat → Bool) (dep : Nat → Nat) (u : Nat) (lu : List Nat) (b : Nat) (l : List Nat) (z : Nat) : Prop where
  way : Way m f u l z
  fin : bs z = b
  fine : ev z = true
  simple : Simple m l z
  bases : ∀ y ∈ l, bs y ∈ lu
  evs : ∀ y ∈ l, ev y = true
  all : ∀ c ∈ lu, c ∈ l ∧ bs c = c
  deep : ∀ c ∈ lu, dep b < dep c
  top : ∀ c ∈ lu, dep c ≤ dep (bs u)
  mate : ∀ y ∈ l, ∃ x, m y = some x ∧ (bs x = bs y ∨ (bs y = y ∧ ev x = false))

theorem Srch.led (h : Srch N E m r ev f bs dep) (hM : Mat N E m) : ∀ {lu : List Nat} {u b : Nat}, ev u = true → Chain m f bs u lu b → ∃ l z, Led m f bs ev dep u lu b l z ∧ dep b ≤ dep (bs u)
  | [], u, b, hu, hc => by
    refine ⟨[], u, ⟨rfl, hc, hu, ⟨List.nodup_nil, by simp, by simp⟩, by simp, by simp, by simp, by simp, by simp, by simp⟩, ?_⟩
    rw [show bs u = b from hc]; exact Nat.le_refl _
  | c :: lu, u, b, hu, ⟨hcu, x, w, h1, h2, h3⟩ => by
    have hw := h.fev _ _ h2
    obtain ⟨l, z, hl, hd⟩ := Srch.led h hM hw h3
    obtain ⟨i, hi1, hi2, hi3, hi4⟩ := h.inn u hu
    rw [← hcu] at hi1 hi2 hi3 hi4
    have hce : ev c = true := hcu ▸ h.ebs u hu
    have hcc : bs c = c := by rw [hcu, h.bb]
    have hox : ev x = false ∧ dep (bs w) < dep c ∧ c ≠ r := by
      rcases h.out c hce hcc with e | ⟨x', w', e1, e2, e3, e4⟩
      · rw [e, h.rlone] at h1; cases h1
      · rw [h1] at e1; cases e1
        rw [h2] at e3; cases e3
        exact ⟨e2, e4, fun e => by rw [e, h.rlone] at h1; cases h1⟩
    have hlow : ∀ y ∈ l, bs y ≠ c := fun y hy e => by
      have := hl.top _ (hl.bases y hy)
      rw [e] at this
      have := hox.2.1
      omega
    have hzc : bs z ≠ c := fun e => by
      rw [hl.fin] at e
      rw [e] at hd
      have := hox.2.1
      omega
    have hie : ∀ y ∈ i, ev y = true := fun y hy => h.cls hce ((hi3 y hy).trans hcc.symm)
    refine ⟨i ++ c :: l, z, ⟨hi1.append ⟨rfl, x, w, h1, h2, hl.way⟩, hl.fin, hl.fine, ⟨?_, ?_, ?_⟩, ?_, ?_, ?_, ?_, ?_, ?_⟩, ?_⟩
    · refine List.nodup_append.2 ⟨hi2.nodup, List.nodup_cons.2 ⟨fun hc => hlow c hc hcc, hl.simple.nodup⟩, fun a ha d hd e => ?_⟩
      subst e
      rcases List.mem_cons.1 hd with rfl | hd
      · exact hi2.last ha
      · exact hlow _ hd (hi3 _ ha)
    · intro hz
      rcases List.mem_append.1 hz with hz | hz
      · exact hzc (hi3 _ hz)
      · rcases List.mem_cons.1 hz with rfl | hz
        · exact hzc hcc
        · exact hl.simple.last hz
    · intro a ha d hd
      rcases List.mem_append.1 ha with ha | ha
      · have hb := hi4 a ha d hd
        have ho := hi2.off a ha d hd
        refine ⟨fun hm => ?_, fun e => hzc (e ▸ hb)⟩
        rcases List.mem_append.1 hm with hm | hm
        · exact ho.1 hm
        · rcases List.mem_cons.1 hm with e | hm
          · exact ho.2 e
          · exact hlow _ hm hb
      · rcases List.mem_cons.1 ha with rfl | ha
        · rw [h1] at hd; cases hd
          have hx := hox.1
          refine ⟨fun hm => ?_, fun e => ?_⟩
          · rcases List.mem_append.1 hm with hm | hm
            · rw [hie _ hm] at hx; cases hx
            · rcases List.mem_cons.1 hm with e | hm
              · rw [e, hce] at hx; cases hx
              · rw [hl.evs _ hm] at hx; cases hx
          · rw [e, hl.fine] at hx; cases hx
        · have ho := hl.simple.off a ha d hd
          refine ⟨fun hm => ?_, ho.2⟩
          rcases List.mem_append.1 hm with hm | hm
          · exact hlow a ha (hi4 d hm a (hM.sym _ _ hd))
          · rcases List.mem_cons.1 hm with e | hm
            · rw [e] at hd
              have := hM.sym _ _ hd
              rw [h1] at this; cases this
              have hx := hox.1
              rw [hl.evs _ ha] at hx; cases hx
            · exact ho.1 hm
    · intro y hy
      rcases List.mem_append.1 hy with hy | hy
      · rw [hi3 y hy]; simp
      · rcases List.mem_cons.1 hy with rfl | hy
        · rw [hcc]; simp
        · simp [hl.bases y hy]
    · intro y hy
      rcases List.mem_append.1 hy with hy | hy
      · exact hie y hy
      · rcases List.mem_cons.1 hy with rfl | hy
        · exact hce
        · exact hl.evs y hy
    · intro d hd
      rcases List.mem_cons.1 hd with rfl | hd
      · exact ⟨by simp, hcc⟩
      · exact ⟨by simp [(hl.all d hd).1], (hl.all d hd).2⟩
    · intro d hd'
      rcases List.mem_cons.1 hd' with rfl | hd'
      · have := hox.2.1; omega
      · exact hl.deep d hd'
    · intro d hd'
      rw [← hcu]
      rcases List.mem_cons.1 hd' with rfl | hd'
      · exact Nat.le_refl _
      · have := hl.top d hd'
        have := hox.2.1; omega
    · intro y hy
      rcases List.mem_append.1 hy with hy | hy
      · have hyw : ∃ x, m y = some x := by
          obtain ⟨s, ⟨_, x, w, h1, _⟩, _⟩ := hi1.suffix hy
          exact ⟨x, h1⟩
        obtain ⟨x, hx⟩ := hyw
        exact ⟨x, hx, Or.inl ((hi4 y hy x hx).trans (hi3 y hy).symm)⟩
      · rcases List.mem_cons.1 hy with rfl | hy
        · exact ⟨x, h1, Or.inr ⟨hcc, hox.1⟩⟩
        · exact hl.mate y hy
    · rw [← hcu]; have := hox.2.1; omega

/-- All pointers of a way turned round. -/
def Rev (m g : Nat → Option Nat) : Nat → List Nat → Prop
  | _, [] => True
  | a, y :: l => g y = some a ∧ ∃ x, m y = some x ∧ Rev m g x l

theorem Rev.up {g : Nat → Option Nat} (hM : Mat N E m) : ∀ {l : List Nat} {a y x : Nat}, Rev m g a l → l.Nodup → y ∈ l → m y = some x → ∃ l', Way m g x l' a ∧ l'.Nodup ∧ ∀ z ∈ l', ∃ d ∈ l, m d = some z
  | d :: l, a, y, x, ⟨h1, x0, h2, h3⟩, hn, hy, hx => by
    have hn' := List.nodup_cons.1 hn
    rcases List.mem_cons.1 hy with rfl | hy
    · rw [h2] at hx; cases hx
      exact ⟨[x], ⟨rfl, y, a, hM.sym _ _ h2, h1, rfl⟩, by simp, fun z hz => ⟨y, by simp, by simp at hz; rw [hz]; exact h2⟩⟩
    · obtain ⟨l', hw, hd, ha⟩ := Rev.up hM h3 hn'.2 hy hx
      refine ⟨l' ++ [x0], hw.append ⟨rfl, d, a, hM.sym _ _ h2, h1, rfl⟩, List.nodup_append.2 ⟨hd, by simp, fun p hp q hq e => ?_⟩, fun z hz => ?_⟩
      · obtain ⟨d', hd', he⟩ := ha p hp
        simp at hq
        rw [e, hq] at he
        exact hn'.1 (hM.inj h2 he ▸ hd')
      · rcases List.mem_append.1 hz with hz | hz
        · obtain ⟨d', hd', he⟩ := ha z hz
          exact ⟨d', by simp [hd'], he⟩
        · simp at hz
          exact ⟨d, by simp, hz ▸ h2⟩

def ledF (m f : Nat → Option Nat) : Option Nat → List Nat → Nat → Option Nat
  | _, [], z => f z
  | a, y :: l, z => if z = y then a else ledF m f (m y) l z
theorem ledF_off {m f : Nat → Option Nat} : ∀ {l : List Nat} {a : Option Nat} {z : Nat}, z ∉ l → ledF m f a l z = f z
  | [], _, _, _ => rfl
  | y :: l, a, z, h => by
    rw [ledF, if_neg (fun e => h (by simp [e]))]
    exact ledF_off fun hz => h (by simp [hz])
theorem ledF_rev {m f g : Nat → Option Nat} : ∀ {l : List Nat} {a : Nat}, l.Nodup → (∀ y ∈ l, ∃ x, m y = some x) → (∀ z ∈ l, g z = ledF m f (some a) l z) → Rev m g a l
  | [], _, _, _, _ => True.intro
  | y :: l, a, hn, hm, hg => by
    obtain ⟨x, hx⟩ := hm y (by simp)
    have hn' := List.nodup_cons.1 hn
    refine ⟨by rw [hg y (by simp)]; simp [ledF], x, hx, ledF_rev (f := f) hn'.2 (fun z hz => hm z (by simp [hz])) fun z hz => ?_⟩
    rw [hg z (by simp [hz]), ledF, if_neg (fun (e : z = y) => hn'.1 (e ▸ hz)), hx]

theorem Simple.append (hM : Mat N E m) {A B : List Nat} {t : Nat} (hA : A.Nodup) (hB : Simple m B t)
    (h : ∀ a ∈ A, a ∉ B ∧ a ≠ t ∧ ∀ c, m a = some c → c ∉ A ∧ c ∉ B ∧ c ≠ t) : Simple m (A ++ B) t where
  nodup := List.nodup_append.2 ⟨hA, hB.nodup, fun a ha d hd e => (h a ha).1 (e ▸ hd)⟩
  last := fun ht => by
    rcases List.mem_append.1 ht with ht | ht
    · exact (h t ht).2.1 rfl
    · exact hB.last ht
  off := fun a ha c hc => by
    rcases List.mem_append.1 ha with ha | ha
    · have := (h a ha).2.2 c hc
      exact ⟨fun hm => (List.mem_append.1 hm).elim this.1 this.2.1, this.2.2⟩
    · have := hB.off a ha c hc
      refine ⟨fun hm => ?_, this.2⟩
      rcases List.mem_append.1 hm with hm | hm
      · exact ((h c hm).2.2 a (hM.sym _ _ hc)).2.1 ha
      · exact this.1 hm

/-- The first node of a way that lies on l. -/
theorem Way.first {m f : Nat → Option Nat} (P : Nat → Prop) : ∀ {i : List Nat} {y t : Nat}, Way m f y i t → P t → ∃ p s, Way m f y p s ∧ P s ∧ (∀ z ∈ p, z ∈ i ∧ ¬ P z) ∧ (i.Nodup → p.Nodup) ∧ (s ∈ i ∨ s = t)
  | [], y, t, h, ht => ⟨[], t, h, ht, by simp, fun _ => List.nodup_nil, Or.inr rfl⟩
  | d :: i, y, t, ⟨h1, x, w, h2, h3, h4⟩, ht => by
    by_cases hp : P d
    · exact ⟨[], d, h1.symm, hp, by simp, fun _ => List.nodup_nil, Or.inl (by simp)⟩
    · obtain ⟨p, s, hw, hs, ha, hn, hst⟩ := Way.first P h4 ht
      refine ⟨d :: p, s, ⟨h1, x, w, h2, h3, hw⟩, hs, fun z hz => ?_, fun hd => ?_, ?_⟩
      · rcases List.mem_cons.1 hz with rfl | hz
        · exact ⟨by simp, hp⟩
        · exact ⟨by simp [(ha z hz).1], (ha z hz).2⟩
      · have := List.nodup_cons.1 hd
        exact List.nodup_cons.2 ⟨fun hm => this.1 (ha d hm).1, hn this.2⟩
      · rcases hst with e | e
        · exact Or.inl (by simp [e])
        · exact Or.inr e

/-- c is the base of a node on the way l. -/
def Ins (m : Nat → Option Nat) (bs : Nat → Nat) (l : List Nat) (c : Nat) : Prop := ∃ y ∈ l, bs y = c ∨ ∃ x, m y = some x ∧ bs x = c

theorem Led.ins {u b z c : Nat} {lu l : List Nat} (hl : Led m f bs ev dep u lu b l z) (h : Srch N E m r ev f bs dep) (hc : Ins m bs l c) : c ∈ lu ∨ (ev c = false ∧ bs c = c ∧ ∃ y ∈ l, m y = some c ∧ bs y = y) := by
  obtain ⟨y, hy, e | ⟨x, hx, e⟩⟩ := hc
  · exact Or.inl (e ▸ hl.bases y hy)
  · obtain ⟨x', hx', h2⟩ := hl.mate y hy
    rw [hx] at hx'; cases hx'
    rcases h2 with h2 | ⟨h2, h3⟩
    · exact Or.inl (by rw [← e, h2]; exact hl.bases y hy)
    · have hb := h.odd_base h3
      rw [hb] at e
      subst e
      exact Or.inr ⟨h3, hb, y, hy, hx, h2⟩

/-- In a new flower an even way leads from each node to the base. -/
theorem fold_inn (h : Srch N E m r ev f bs dep) (hM : Mat N E m) {g : Nat → Option Nat} {u v b zu zv : Nat} {lu lv pu pv : List Nat}
    (hu : Led m f bs ev dep u lu b pu zu) (hv : Led m f bs ev dep v lv b pv zv) (hd : ∀ c ∈ lu, c ∉ lv)
    (hg : ∀ z, z ∉ pu → z ∉ pv → g z = f z) (hr : Rev m g v pu) {w : Nat} (hw : Ins m bs pu (bs w)) :
    ∃ l, Way m g w l b ∧ Simple m l b ∧ ∀ z ∈ l, (Ins m bs pu (bs z) ∨ Ins m bs pv (bs z) ∨ bs z = b) ∧ ∀ x, m z = some x → (Ins m bs pu (bs x) ∨ Ins m bs pv (bs x) ∨ bs x = b) := by
  have hbu : b ∉ lu := fun hb => Nat.lt_irrefl _ (hu.deep b hb)
  have hbv : b ∉ lv := fun hb => Nat.lt_irrefl _ (hv.deep b hb)
  have hbb : bs b = b := by rw [← hu.fin, h.bb]
  have hbe : ev b = true := by rw [← hu.fin]; exact h.ebs _ hu.fine
  -- what lies on both ways, and in the class of b
  have puv : ∀ y ∈ pu, y ∉ pv := fun y hy hy' => hd _ (hu.bases y hy) (hv.bases y hy')
  have mpv : ∀ y ∈ pu, ∀ x, m y = some x → x ∉ pv := fun y hy x hx hx' => by
    obtain ⟨x', hx1, h2⟩ := hu.mate y hy
    rw [hx] at hx1; cases hx1
    rcases h2 with h2 | h2
    · exact hd _ (hu.bases y hy) (h2 ▸ hv.bases x hx')
    · have := hv.evs x hx'
      rw [h2.2] at this; cases this
  have mpb : ∀ y ∈ pu, ∀ x, m y = some x → bs x ≠ b := fun y hy x hx e => by
    obtain ⟨x', hx1, h2⟩ := hu.mate y hy
    rw [hx] at hx1; cases hx1
    rcases h2 with h2 | h2
    · exact hbu (by rw [← e, h2]; exact hu.bases y hy)
    · have := h.cls hbe (e.trans hbb.symm)
      rw [h2.2] at this; cases this
  have vpu : ∀ y ∈ pv, ∀ x, m y = some x → x ∉ pu := fun y hy x hx hx' => mpv x hx' y (hM.sym _ _ hx) hy
  have vpb : ∀ y ∈ pv, ∀ x, m y = some x → bs x ≠ b := fun y hy x hx e => by
    obtain ⟨x', hx1, h2⟩ := hv.mate y hy
    rw [hx] at hx1; cases hx1
    rcases h2 with h2 | h2
    · exact hbv (by rw [← e, h2]; exact hv.bases y hy)
    · have := h.cls hbe (e.trans hbb.symm)
      rw [h2.2] at this; cases this
  -- the end of both ways
  have ends : ∀ {z : Nat}, bs z = b → ev z = true → ∃ i, Way m g z i b ∧ Simple m i b ∧ (∀ a ∈ i, bs a = b) ∧ ∀ a ∈ i, ∀ x, m a = some x → bs x = b := by
    intro z hz hze
    obtain ⟨i, h1, h2, h3, h4⟩ := h.inn z hze
    rw [hz] at h1 h2 h3 h4
    refine ⟨i, h1.congr fun a ha x hx => hg x (fun hp => ?_) (fun hp => ?_), h2, h3, h4⟩
    · exact hbu (h4 a ha x hx ▸ hu.bases x hp)
    · exact hbv (h4 a ha x hx ▸ hv.bases x hp)
  -- down one way, from one of its nodes
  have down : ∀ s ∈ pu, ∃ l, Way m g s l b ∧ Simple m l b ∧ ∀ a ∈ l, a ∈ pu ∨ (bs a = b ∧ ∀ x, m a = some x → bs x = b) := by
    intro s hs
    obtain ⟨t, h1, h2, h3⟩ := hu.way.suffix hs
    obtain ⟨i, e1, e2, e3, e4⟩ := ends hu.fin hu.fine
    refine ⟨(s :: t) ++ i, (h1.congr fun a ha x hx => hg x (fun hp => (hu.simple.off a (h2 a ha) x hx).1 hp) (mpv a (h2 a ha) x hx)).append e1, Simple.append hM (h3 hu.simple.nodup) e2 fun a ha => ?_, fun a ha => ?_⟩
    · have hp := h2 a ha
      have nb : bs a ≠ b := fun e => hbu (e ▸ hu.bases a hp)
      refine ⟨fun hi => nb (e3 a hi), fun e => nb (by rw [e, hbb]), fun c hc => ⟨fun hm => (hu.simple.off a hp c hc).1 (h2 c hm), fun hi => mpb a hp c hc (e3 c hi), fun e => mpb a hp c hc (by rw [e, hbb])⟩⟩
    · rcases List.mem_append.1 ha with ha | ha
      · exact Or.inl (h2 a ha)
      · exact Or.inr ⟨e3 a ha, e4 a ha⟩
  -- up the one way, and down the other one
  have over : ∃ l, Way m g v l b ∧ Simple m l b ∧ ∀ a ∈ l, a ∈ pv ∨ (bs a = b ∧ ∀ x, m a = some x → bs x = b) := by
    obtain ⟨i, e1, e2, e3, e4⟩ := ends hv.fin hv.fine
    refine ⟨pv ++ i, (hv.way.congr fun a ha x hx => hg x (vpu a ha x hx) (fun hp => (hv.simple.off a ha x hx).1 hp)).append e1, Simple.append hM hv.simple.nodup e2 fun a hp => ?_, fun a ha => ?_⟩
    · have nb : bs a ≠ b := fun e => hbv (e ▸ hv.bases a hp)
      refine ⟨fun hi => nb (e3 a hi), fun e => nb (by rw [e, hbb]), fun c hc => ⟨fun hm => (hv.simple.off a hp c hc).1 hm, fun hi => vpb a hp c hc (e3 c hi), fun e => vpb a hp c hc (by rw [e, hbb])⟩⟩
    · rcases List.mem_append.1 ha with ha | ha
      · exact Or.inl ha
      · exact Or.inr ⟨e3 a ha, e4 a ha⟩
  -- whichever way one meets
  have met : ∀ s, (s ∈ pu ∨ ∃ y ∈ pu, m y = some s) → ∃ l, Way m g s l b ∧ Simple m l b ∧ ∀ a ∈ l, (a ∈ pu ∨ ∃ y ∈ pu, m y = some a) ∨ a ∈ pv ∨ (bs a = b ∧ ∀ x, m a = some x → bs x = b) := by
    intro s hs
    rcases hs with hs | ⟨y, hy, hs⟩
    · obtain ⟨l, h1, h2, h3⟩ := down s hs
      exact ⟨l, h1, h2, fun a ha => (h3 a ha).elim (fun h => Or.inl (Or.inl h)) fun h => Or.inr (Or.inr h)⟩
    · obtain ⟨l', h1, h2, h3⟩ := Rev.up hM hr hu.simple.nodup hy hs
      obtain ⟨l, e1, e2, e3⟩ := over
      refine ⟨l' ++ l, h1.append e1, Simple.append hM h2 e2 fun a ha => ?_, fun a ha => ?_⟩
      · obtain ⟨d, hd', hda⟩ := h3 a ha
        have nl : a ∉ l := fun hm => by
          rcases e3 a hm with hm | hm
          · exact mpv d hd' a hda hm
          · exact mpb d hd' a hda hm.1
        refine ⟨nl, fun e => mpb d hd' a hda (by rw [e, hbb]), fun c hc => ?_⟩
        have : c = d := by
          have := hM.sym _ _ hda
          rw [hc] at this; exact Option.some.inj this
        subst this
        refine ⟨fun hm => ?_, fun hm => ?_, fun e => hbu (by have := hu.bases c hd'; rwa [e, hbb] at this)⟩
        · obtain ⟨d', hd1, hd2⟩ := h3 c hm
          exact (hu.simple.off d' hd1 c hd2).1 hd'
        · rcases e3 c hm with hm | hm
          · exact puv c hd' hm
          · exact hbu (hm.1 ▸ hu.bases c hd')
      · rcases List.mem_append.1 ha with ha | ha
        · exact Or.inl (Or.inr (h3 a ha))
        · exact Or.inr (e3 a ha)
  -- from w on
  have pre : ∃ p s, Way m g w p s ∧ (s ∈ pu ∨ ∃ y ∈ pu, m y = some s) ∧ p.Nodup ∧ (∀ z ∈ p, bs z = bs w ∧ bs w ∈ lu ∧ ¬ (z ∈ pu ∨ ∃ y ∈ pu, m y = some z) ∧ ∀ x, m z = some x → bs x = bs w ∧ x ∉ p) := by
    rcases hu.ins h hw with hc | ⟨h1, h2, y, hy, h3, h4⟩
    · have hwe : ev w = true := h.cls (hu.evs _ (hu.all _ hc).1) (hu.all _ hc).2.symm
      obtain ⟨i, i1, i2, i3, i4⟩ := h.inn w hwe
      obtain ⟨p, s, q1, q2, q3, q4, q5⟩ := i1.first (fun z => z ∈ pu ∨ ∃ y ∈ pu, m y = some z) (Or.inl (hu.all _ hc).1)
      refine ⟨p, s, q1.congr fun a ha x hx => hg x (fun hp => (q3 a ha).2 (Or.inr ⟨x, hp, hM.sym _ _ hx⟩)) (fun hp => ?_), q2, q4 i2.nodup, fun z hz => ⟨i3 z (q3 z hz).1, hc, (q3 z hz).2, fun x hx => ⟨i4 z (q3 z hz).1 x hx, fun hm => (i2.off z (q3 z hz).1 x hx).1 (q3 x hm).1⟩⟩⟩
      have := hv.bases x hp
      rw [i4 a (q3 a ha).1 x hx] at this
      exact hd _ hc this
    · have : ev w = false := by
        by_cases e : bs w = w
        · rw [e] at h1; exact h1
        · have := h.ebs w (h.be w e)
          rw [h1] at this; cases this
      have hb := h.odd_base this
      rw [hb] at h3
      exact ⟨[], w, rfl, Or.inr ⟨y, hy, h3⟩, List.nodup_nil, by simp⟩
  obtain ⟨p, s, p1, p2, p3, p4⟩ := pre
  obtain ⟨l, l1, l2, l3⟩ := met s p2
  have cl : ∀ a ∈ l, (Ins m bs pu (bs a) ∨ Ins m bs pv (bs a) ∨ bs a = b) := by
    intro a ha
    rcases l3 a ha with (ha | ⟨y, hy, hya⟩) | ha | ha
    · exact Or.inl ⟨a, ha, Or.inl rfl⟩
    · exact Or.inl ⟨y, hy, Or.inr ⟨a, hya, rfl⟩⟩
    · exact Or.inr (Or.inl ⟨a, ha, Or.inl rfl⟩)
    · exact Or.inr (Or.inr ha.1)
  have offl : ∀ a, bs a = bs w → bs w ∈ lu → ¬ (a ∈ pu ∨ ∃ y ∈ pu, m y = some a) → a ∉ l := by
    intro a e1 e2 e3 hm
    rcases l3 a hm with hm | hm | hm
    · exact e3 hm
    · exact hd _ e2 (e1 ▸ hv.bases a hm)
    · exact hbu (by rw [← hm.1, e1]; exact e2)
  have offm : ∀ z ∈ p, ∀ x, m z = some x → ¬ (x ∈ pu ∨ ∃ y ∈ pu, m y = some x) := by
    rintro z hz x hx (hm | ⟨y, hy, hyx⟩)
    · exact (p4 z hz).2.2.1 (Or.inr ⟨x, hm, hM.sym _ _ hx⟩)
    · exact (p4 z hz).2.2.1 (Or.inl (hM.inj hyx hx ▸ hy))
  refine ⟨p ++ l, p1.append l1, Simple.append hM p3 l2 fun a ha => ?_, fun a ha => ?_⟩
  · obtain ⟨q1, q2, q3, q4⟩ := p4 a ha
    have nb : ∀ a, bs a = bs w → a ≠ b := fun a e e' => hbu (by rw [← hbb, ← e', e]; exact q2)
    refine ⟨offl a q1 q2 q3, nb a q1, fun c hc => ⟨(q4 c hc).2, offl c (q4 c hc).1 q2 (offm a ha c hc), nb c (q4 c hc).1⟩⟩
  · have key : ∀ z, bs z = bs w → (Ins m bs pu (bs z) ∨ Ins m bs pv (bs z) ∨ bs z = b) := fun z e => Or.inl (e ▸ hw)
    rcases List.mem_append.1 ha with ha | ha
    · exact ⟨key a (p4 a ha).1, fun x hx => key x ((p4 a ha).2.2.2 x hx).1⟩
    · refine ⟨cl a ha, fun x hx => ?_⟩
      rcases l3 a ha with (ha | ⟨y, hy, hya⟩) | ha | ha
      · exact Or.inl ⟨a, ha, Or.inr ⟨x, hx, rfl⟩⟩
      · have : x = y := by
          have := hM.sym _ _ hya
          rw [hx] at this; exact Option.some.inj this
        exact Or.inl ⟨y, hy, Or.inl (by rw [this])⟩
      · exact Or.inr (Or.inl ⟨a, ha, Or.inr ⟨x, hx, rfl⟩⟩)
      · exact Or.inr (Or.inr (ha.2 x hx))
end srch
end Go.Proofs.YtenjkhgpfmfgmaaDoor

namespace Go.Proofs.YtenjkhgpfmfgmaaDoor
section srch
variable {N : Nat} {E : Nat → Nat → Prop} {m : Nat → Option Nat} {r : Nat} {ev : Nat → Bool} {f : Nat → Option Nat} {bs dep : Nat → Nat}

/-- A flower more: S are the bases inside. -/
theorem Srch.fold (h : Srch N E m r ev f bs dep) (hM : Mat N E m) (hsy : ∀ a b, E a b → E b a) {g : Nat → Option Nat} {S : Nat → Bool} {u v b zu zv : Nat} {lu lv pu pv : List Nat}
    (hu : Led m f bs ev dep u lu b pu zu) (hv : Led m f bs ev dep v lv b pv zv) (hd : ∀ c ∈ lu, c ∉ lv)
    (hue : ev u = true) (hve : ev v = true) (huv : E u v)
    (hg : ∀ z, z ∉ pu → z ∉ pv → g z = f z) (hru : Rev m g v pu) (hrv : Rev m g u pv)
    (hS : ∀ c, S c = true ↔ Ins m bs pu c ∨ Ins m bs pv c) :
    Srch N E m r (fun w => ev w || S (bs w)) g (fun w => if S (bs w) then b else bs w) dep ∧ (∀ w, f w ≠ none → g w ≠ none) ∧ S b = false := by
  have hbu : b ∉ lu := fun hb => Nat.lt_irrefl _ (hu.deep b hb)
  have hbv : b ∉ lv := fun hb => Nat.lt_irrefl _ (hv.deep b hb)
  have hbb : bs b = b := by rw [← hu.fin, h.bb]
  have hbe : ev b = true := by rw [← hu.fin]; exact h.ebs _ hu.fine
  have hSe : ∀ c, ev c = true → S c = true → c ∈ lu ∨ c ∈ lv := by
    intro c hc hs
    rcases (hS c).1 hs with hs | hs
    · rcases hu.ins h hs with h1 | ⟨h1, _⟩
      · exact Or.inl h1
      · rw [hc] at h1; cases h1
    · rcases hv.ins h hs with h1 | ⟨h1, _⟩
      · exact Or.inr h1
      · rw [hc] at h1; cases h1
  have hSo : ∀ c, ev c = false → S c = true → ∃ y, (y ∈ pu ∨ y ∈ pv) ∧ m y = some c ∧ bs y = y := by
    intro c hc hs
    rcases (hS c).1 hs with hs | hs
    · rcases hu.ins h hs with h1 | ⟨_, _, y, h1, h2, h3⟩
      · have := hu.evs c (hu.all c h1).1
        rw [hc] at this; cases this
      · exact ⟨y, Or.inl h1, h2, h3⟩
    · rcases hv.ins h hs with h1 | ⟨_, _, y, h1, h2, h3⟩
      · have := hv.evs c (hv.all c h1).1
        rw [hc] at this; cases this
      · exact ⟨y, Or.inr h1, h2, h3⟩
  have hSdeep : ∀ c, ev c = true → S c = true → dep b < dep c := fun c hc hs => (hSe c hc hs).elim (hu.deep c) (hv.deep c)
  have hSb : S b = false := by
    cases e : S b
    · rfl
    · exact absurd (hSdeep b hbe e) (Nat.lt_irrefl _)
  have hpS : ∀ y, y ∈ pu ∨ y ∈ pv → S (bs y) = true := fun y hy => (hS _).2 (hy.elim (fun h => Or.inl ⟨y, h, Or.inl rfl⟩) fun h => Or.inr ⟨y, h, Or.inl rfl⟩)
  have hpM : ∀ y, y ∈ pu ∨ y ∈ pv → ∀ x, m y = some x → S (bs x) = true := fun y hy x hx => (hS _).2 (hy.elim (fun h => Or.inl ⟨y, h, Or.inr ⟨x, hx, rfl⟩⟩) fun h => Or.inr ⟨y, h, Or.inr ⟨x, hx, rfl⟩⟩)
  have hpe : ∀ y, y ∈ pu ∨ y ∈ pv → ev y = true := fun y hy => hy.elim (hu.evs y) (hv.evs y)
  have hgf : ∀ z, ¬ (z ∈ pu ∨ z ∈ pv) → g z = f z := fun z hz => hg z (fun h => hz (Or.inl h)) fun h => hz (Or.inr h)
  -- the pointers of the ways
  have hrev : ∀ {l : List Nat} {a : Nat}, Rev m g a l → (∀ y ∈ l, (y ∈ pu ∨ y ∈ pv)) → ∀ {c t : Nat}, Way m f c l t → (E c a ∧ a < N) → (ev a = true ∨ S (bs a) = true) → ∀ y ∈ l, ∃ d, g y = some d ∧ E y d ∧ d < N ∧ (ev d = true ∨ S (bs d) = true) := by
    intro l
    induction l with
    | nil => intro a _ _ c t _ _ _ y hy; cases hy
    | cons y0 l ih =>
      rintro a ⟨h1, x, h2, h3⟩ hp c t ⟨e1, x', w, e2, e3, e4⟩ ha hs y hy
      subst e1
      rw [h2] at e2; cases e2
      rcases List.mem_cons.1 hy with rfl | hy
      · exact ⟨a, h1, ha.1, ha.2, hs⟩
      · have he := h.edge _ _ e3
        exact ih h3 (fun y hy => hp y (by simp [hy])) e4 ⟨hsy _ _ he.1, he.2.1⟩ (Or.inr (hpM _ (hp _ (by simp)) _ h2)) y hy
  have hvN := h.evlt v hve
  have huN := h.evlt u hue
  have hpg : ∀ y, y ∈ pu ∨ y ∈ pv → ∃ d, g y = some d ∧ E y d ∧ d < N ∧ (ev d = true ∨ S (bs d) = true) := by
    rintro y (hy | hy)
    · exact hrev hru (fun y hy => Or.inl hy) hu.way ⟨huv, hvN⟩ (Or.inl hve) y hy
    · exact hrev hrv (fun y hy => Or.inr hy) hv.way ⟨hsy _ _ huv, huN⟩ (Or.inl hue) y hy
  have hbs' : ∀ w, (if S (bs w) then b else bs w) = w → S (bs w) = false ∧ bs w = w ∨ (w = b) := by
    intro w hw
    cases e : S (bs w)
    · rw [e] at hw; exact Or.inl ⟨rfl, by simpa using hw⟩
    · rw [e] at hw; exact Or.inr (by simpa using hw.symm)
  have hpN : ∀ y, y ∈ pu ∨ y ∈ pv → y < N := fun y hy => h.evlt y (hpe y hy)
  refine ⟨⟨?_, ?_, h.rlone, ?_, ?_, ?_, ?_, ?_, ?_, ?_, ?_⟩, ?_, hSb⟩
  · intro w hw
    simp only [Bool.or_eq_true] at hw
    rcases hw with hw | hw
    · exact h.evlt w hw
    · by_cases e : bs w = w
      · by_cases he : ev w = true
        · exact h.evlt w he
        · rw [e] at hw
          obtain ⟨y, _, h2, _⟩ := hSo w (by simpa using he) hw
          exact (hM.lt _ _ h2).2
      · exact h.evlt w (h.be w e)
  · simp [h.root]
  · intro w
    show (if S (bs (if S (bs w) then b else bs w)) then b else bs (if S (bs w) then b else bs w)) = if S (bs w) then b else bs w
    cases e : S (bs w)
    · simp [h.bb, e]
    · simp [hbb]
  · intro w hw
    show (ev w || S (bs w)) = true
    cases e : S (bs w)
    · rw [e] at hw
      simp [h.be w (by simpa using hw)]
    · simp
  · intro w hw
    show (ev (if S (bs w) then b else bs w) || S (bs (if S (bs w) then b else bs w))) = true
    cases e : S (bs w)
    · simp only [e, Bool.or_false] at hw
      simp [h.ebs w hw]
    · simp [hbe]
  · intro x w hx
    by_cases hp : x ∈ pu ∨ x ∈ pv
    · obtain ⟨d, h1, h2, h3, h4⟩ := hpg x hp
      rw [h1] at hx; cases hx
      exact ⟨h2, hpN x hp, h3⟩
    · rw [hgf x hp] at hx
      exact h.edge x w hx
  · intro x w hx
    show (ev w || S (bs w)) = true
    by_cases hp : x ∈ pu ∨ x ∈ pv
    · obtain ⟨d, h1, h2, h3, h4⟩ := hpg x hp
      rw [h1] at hx; cases hx
      simpa using h4
    · rw [hgf x hp] at hx
      simp [h.fev x w hx]
  · intro y hy
    show ∃ l, Way m g y l (if S (bs y) then b else bs y) ∧ Simple m l (if S (bs y) then b else bs y) ∧ (∀ z ∈ l, (if S (bs z) then b else bs z) = (if S (bs y) then b else bs y)) ∧ ∀ z ∈ l, ∀ x, m z = some x → (if S (bs x) then b else bs x) = (if S (bs y) then b else bs y)
    cases e : S (bs y)
    · have hye : ev y = true := by simpa [e] using hy
      obtain ⟨l, l1, l2, l3, l4⟩ := h.inn y hye
      refine ⟨l, ?_, by simpa using l2, fun z hz => by simp [l3 z hz, e], fun z hz x hx => by simp [l4 z hz x hx, e]⟩
      simp only [Bool.false_eq_true, if_false]
      refine l1.congr fun z hz x hx => hgf x fun hp => ?_
      have := hpS x hp
      rw [l4 z hz x hx, e] at this; cases this
    · simp only [if_true]
      have fin : ∀ {a : Nat}, (Ins m bs pu (bs a) ∨ Ins m bs pv (bs a) ∨ bs a = b) → (if S (bs a) then b else bs a) = b := by
        intro a ha
        rcases ha with ha | ha | ha
        · rw [(hS _).2 (Or.inl ha)]; simp
        · rw [(hS _).2 (Or.inr ha)]; simp
        · rw [ha]; simp
      rcases (hS _).1 e with hi | hi
      · obtain ⟨l, l1, l2, l3⟩ := fold_inn h hM hu hv hd hg hru hi
        exact ⟨l, l1, l2, fun z hz => fin (l3 z hz).1, fun z hz x hx => fin ((l3 z hz).2 x hx)⟩
      · obtain ⟨l, l1, l2, l3⟩ := fold_inn h hM hv hu (fun c h1 h2 => hd c h2 h1) (fun z h1 h2 => hg z h2 h1) hrv hi
        refine ⟨l, l1, l2, fun z hz => fin ?_, fun z hz x hx => fin ?_⟩
        · rcases (l3 z hz).1 with h | h | h
          · exact Or.inr (Or.inl h)
          · exact Or.inl h
          · exact Or.inr (Or.inr h)
        · rcases (l3 z hz).2 x hx with h | h | h
          · exact Or.inr (Or.inl h)
          · exact Or.inl h
          · exact Or.inr (Or.inr h)
  · intro y hy hyb
    have key : ∀ y, ev y = true → bs y = y → S y = false → (y = r) ∨ ∃ x w, m y = some x ∧ (ev x || S (bs x)) = false ∧ g x = some w ∧ dep (if S (bs w) then b else bs w) < dep y := by
      intro y hye hyb hys
      rcases h.out y hye hyb with e | ⟨x, w, h1, h2, h3, h4⟩
      · exact Or.inl e
      · refine Or.inr ⟨x, w, h1, ?_, ?_, ?_⟩
        · cases e : S (bs x)
          · simp [h2]
          · rw [h.odd_base h2] at e
            obtain ⟨y', hy', h5, h6⟩ := hSo x h2 e
            have := hM.inj h5 (hM.sym _ _ (hM.sym _ _ h1))
            subst this
            have := hpS _ hy'
            rw [h6, hys] at this; cases this
        · rw [hgf x fun hp => by rw [hpe x hp] at h2; cases h2]
          exact h3
        · cases e : S (bs w)
          · simpa using h4
          · have := hSdeep _ (h.ebs _ (h.fev _ _ h3)) e
            simp; omega
    rcases hbs' y hyb with ⟨h1, h2⟩ | h1
    · rw [h2] at h1
      have hye : ev y = true := by simpa [h2, h1] using hy
      exact key y hye h2 h1
    · rw [h1]; exact key b hbe hbb hSb
  · intro x w hx hxw
    show ∃ y, m x = some y ∧ (ev y || S (bs y)) = true ∧ (if S (bs y) then b else bs y) = y
    simp only [Bool.or_eq_false_iff] at hx
    have hxp : ¬ (x ∈ pu ∨ x ∈ pv) := fun hp => by rw [hpe x hp] at hx; cases hx.1
    rw [hgf x hxp] at hxw
    obtain ⟨y, h1, h2, h3⟩ := h.odd x w hx.1 hxw
    refine ⟨y, h1, by simp [h2], ?_⟩
    cases e : S (bs y)
    · simp [h3]
    · rw [h3] at e
      have hyp : y ∈ pu ∨ y ∈ pv := (hSe y h2 e).elim (fun hc => Or.inl (hu.all y hc).1) fun hc => Or.inr (hv.all y hc).1
      have := hpM y hyp x (hM.sym _ _ h1)
      rw [hx.2] at this; cases this
  · intro w hw
    by_cases hp : w ∈ pu ∨ w ∈ pv
    · obtain ⟨d, h1, _⟩ := hpg w hp
      rw [h1]; simp
    · rw [hgf w hp]; exact hw

/-- A new odd node u, by an edge from the even node v, and its mate y, an even one. -/
theorem Srch.grow (h : Srch N E m r ev f bs dep) (hM : Mat N E m) (hsy : ∀ a b, E a b → E b a) (hir : ∀ a, ¬ E a a) {u v y : Nat} (hv : ev v = true) (hu : ev u = false) (hf : f u = none) (huv : E v u) (hm : m u = some y) :
    Srch N E m r (fun w => ev w || w == y) (fun w => if w = u then some v else f w) bs (fun w => if w = y then dep (bs v) + 1 else dep w) ∧ ev y = false ∧ y < N := by
  have hyu : y ≠ u := fun e => hir u (hM.edge u u (e ▸ hm))
  have hmy := hM.sym _ _ hm
  have hN := hM.lt _ _ hm
  have hye : ev y = false := by
    cases e : ev y
    · rfl
    · exfalso
      by_cases hb : bs y = y
      · rcases h.out y e hb with e1 | ⟨x, w, h1, h2, h3, _⟩
        · rw [e1, h.rlone] at hmy; cases hmy
        · rw [hmy] at h1; cases h1
          rw [hf] at h3; cases h3
      · obtain ⟨l, h1, h2, h3, h4⟩ := h.inn y e
        have := h4 y (h1.head (fun e => hb e.symm)) u hmy
        have := h.cls e this
        rw [hu] at this; cases this
  have hyb := h.odd_base hye
  have ney : ∀ {w}, ev w = true → w ≠ y := fun hw e => by rw [e, hye] at hw; cases hw
  have neu : ∀ {w}, ev w = true → w ≠ u := fun hw e => by rw [e, hu] at hw; cases hw
  have hbv : bs v ≠ y := ney (h.ebs v hv)
  refine ⟨⟨?_, ?_, h.rlone, h.bb, ?_, ?_, ?_, ?_, ?_, ?_, ?_⟩, hye, hN.2⟩
  · intro w hw
    simp only [Bool.or_eq_true, beq_iff_eq] at hw
    rcases hw with hw | rfl
    · exact h.evlt w hw
    · exact hN.2
  · simp [h.root]
  · intro w hw
    simp [h.be w hw]
  · intro w hw
    simp only [Bool.or_eq_true, beq_iff_eq] at hw ⊢
    rcases hw with hw | rfl
    · exact Or.inl (h.ebs w hw)
    · exact Or.inr hyb
  · intro x w hx
    by_cases e : x = u
    · rw [if_pos e] at hx; cases hx
      exact ⟨e ▸ hsy _ _ huv, e ▸ hN.1, h.evlt v hv⟩
    · rw [if_neg e] at hx
      exact h.edge x w hx
  · intro x w hx
    show (ev w || w == y) = true
    by_cases e : x = u
    · rw [if_pos e] at hx; cases hx
      simp [hv]
    · rw [if_neg e] at hx
      simp [h.fev x w hx]
  · intro w hw
    simp only [Bool.or_eq_true, beq_iff_eq] at hw
    rcases hw with hw | rfl
    · obtain ⟨l, h1, h2, h3, h4⟩ := h.inn w hw
      refine ⟨l, h1.congr fun z hz x hx => ?_, h2, h3, h4⟩
      rw [if_neg (neu (h.cls hw (h4 z hz x hx)))]
    · rw [hyb]
      exact ⟨[], rfl, ⟨List.nodup_nil, by simp, by simp⟩, by simp, by simp⟩
  · intro w hw hwb
    simp only [Bool.or_eq_true, beq_iff_eq] at hw
    by_cases e : w = y
    · rw [e]
      exact Or.inr ⟨u, v, hmy, by simp [hu, hyu.symm], by simp, by simp [hbv]⟩
    · rcases h.out w (hw.resolve_right e) hwb with e1 | ⟨x, w', h1, h2, h3, h4⟩
      · exact Or.inl e1
      · refine Or.inr ⟨x, w', h1, ?_, ?_, ?_⟩
        · have : x ≠ y := fun e2 => by
            have := hM.inj (e2 ▸ h1) hm
            exact neu (hw.resolve_right e) this
          simp [h2, this]
        · rw [if_neg (fun e2 => by rw [e2, hf] at h3; cases h3)]; exact h3
        · rw [if_neg (ney (h.ebs _ (h.fev _ _ h3))), if_neg e]; exact h4
  · intro x w hx hxw
    simp only [Bool.or_eq_false_iff, beq_eq_false_iff_ne] at hx
    by_cases e : x = u
    · exact ⟨y, e ▸ hm, by simp, hyb⟩
    · rw [if_neg e] at hxw
      obtain ⟨y', h1, h2, h3⟩ := h.odd x w hx.1 hxw
      exact ⟨y', h1, by simp [h2], h3⟩

/-- The search as far as it has come: D are the edges that were looked at. -/
structure Seek (N : Nat) (E : Nat → Nat → Prop) (m : Nat → Option Nat) (r : Nat) (ev : Nat → Bool) (f : Nat → Option Nat) (bs dep : Nat → Nat) (q : List Nat) (D : Nat → Nat → Prop) : Prop where
  srch : Srch N E m r ev f bs dep
  nodup : q.Nodup
  mem : ∀ x, x ∈ q ↔ ev x = true
  done : ∀ v u, D v u → ev v = true ∧ (f u ≠ none ∨ ev u = true) ∧ (D u v → bs u = bs v)

theorem Seek.same {q : List Nat} {D : Nat → Nat → Prop} (h : Seek N E m r ev f bs dep q D) {v u : Nat} (hv : ev v = true) (e : bs u = bs v) : Seek N E m r ev f bs dep q (fun a b => D a b ∨ (a = v ∧ b = u)) := by
  refine ⟨h.srch, h.nodup, h.mem, ?_⟩
  rintro a b (hd | ⟨rfl, rfl⟩)
  · obtain ⟨h1, h2, h3⟩ := h.done a b hd
    refine ⟨h1, h2, ?_⟩
    rintro (h4 | ⟨rfl, rfl⟩)
    · exact h3 h4
    · exact e.symm
  · exact ⟨hv, Or.inr (h.srch.cls hv e), fun _ => e⟩
theorem Seek.oddly {q : List Nat} {D : Nat → Nat → Prop} (h : Seek N E m r ev f bs dep q D) {v u : Nat} (hv : ev v = true) (hu : ev u = false) (hf : f u ≠ none) : Seek N E m r ev f bs dep q (fun a b => D a b ∨ (a = v ∧ b = u)) := by
  refine ⟨h.srch, h.nodup, h.mem, ?_⟩
  rintro a b (hd | ⟨rfl, rfl⟩)
  · obtain ⟨h1, h2, h3⟩ := h.done a b hd
    refine ⟨h1, h2, ?_⟩
    rintro (h4 | ⟨rfl, rfl⟩)
    · exact h3 h4
    · rw [hu] at h1; cases h1
  · refine ⟨hv, Or.inl hf, ?_⟩
    rintro (h4 | ⟨e, _⟩)
    · have := (h.done _ _ h4).1
      rw [hu] at this; cases this
    · rw [e]
theorem Seek.grows {q : List Nat} {D : Nat → Nat → Prop} (h : Seek N E m r ev f bs dep q D) (hM : Mat N E m) (hsy : ∀ a b, E a b → E b a) (hir : ∀ a, ¬ E a a) {u v y : Nat} (hv : ev v = true) (hu : ev u = false) (hf : f u = none) (huv : E v u) (hm : m u = some y) :
    Seek N E m r (fun w => ev w || w == y) (fun w => if w = u then some v else f w) bs (fun w => if w = y then dep (bs v) + 1 else dep w) (q ++ [y]) (fun a b => D a b ∨ (a = v ∧ b = u)) ∧ ev y = false ∧ y < N := by
  obtain ⟨hg, hy, hyN⟩ := h.srch.grow hM hsy hir hv hu hf huv hm
  refine ⟨⟨hg, ?_, ?_, ?_⟩, hy, hyN⟩
  · refine List.nodup_append.2 ⟨h.nodup, by simp, fun a ha b hb e => ?_⟩
    simp at hb
    rw [e, hb] at ha
    have := (h.mem y).1 ha
    rw [hy] at this; cases this
  · intro x
    simp [h.mem x]
  · rintro a b (hd | ⟨rfl, rfl⟩)
    · obtain ⟨h1, h2, h3⟩ := h.done a b hd
      refine ⟨by simp [h1], ?_, ?_⟩
      · by_cases e : b = u
        · exact Or.inl (by simp [e])
        · rw [if_neg e]
          exact h2.imp id fun h => by simp [h]
      · rintro (h4 | ⟨rfl, rfl⟩)
        · exact h3 h4
        · rw [hu] at h1; cases h1
    · refine ⟨by simp [hv], Or.inl (by simp), ?_⟩
      rintro (h4 | ⟨e, _⟩)
      · have := (h.done _ _ h4).1
        rw [hu] at this; cases this
      · rw [e]
theorem Seek.folds {q q' : List Nat} {D : Nat → Nat → Prop} (h : Seek N E m r ev f bs dep q D) (hM : Mat N E m) (hsy : ∀ a b, E a b → E b a) {g : Nat → Option Nat} {S : Nat → Bool} {u v b zu zv : Nat} {lu lv pu pv : List Nat}
    (hu : Led m f bs ev dep u lu b pu zu) (hv : Led m f bs ev dep v lv b pv zv) (hd : ∀ c ∈ lu, c ∉ lv)
    (hue : ev u = true) (hve : ev v = true) (huv : E u v)
    (hg : ∀ z, z ∉ pu → z ∉ pv → g z = f z) (hru : Rev m g v pu) (hrv : Rev m g u pv)
    (hS : ∀ c, S c = true ↔ Ins m bs pu c ∨ Ins m bs pv c)
    (hq : q'.Nodup) (hq' : ∀ x, x ∈ q' ↔ (ev x || S (bs x)) = true) :
    Seek N E m r (fun w => ev w || S (bs w)) g (fun w => if S (bs w) then b else bs w) dep q' (fun a b => D a b ∨ (a = v ∧ b = u)) := by
  obtain ⟨hs, hk, hb⟩ := h.srch.fold hM hsy hu hv hd hue hve huv hg hru hrv hS
  have same : ∀ {w pw zw lw}, Led m f bs ev dep w lw b pw zw → (∀ c, Ins m bs pw c → S c = true) → (if S (bs w) then b else bs w) = b := by
    intro w pw zw lw hw hc
    by_cases e : w = zw
    · rw [e, hw.fin]; simp
    · rw [hc _ ⟨w, hw.way.head e, Or.inl rfl⟩]; simp
  refine ⟨hs, hq, hq', ?_⟩
  rintro a c (hd | ⟨rfl, rfl⟩)
  · obtain ⟨h1, h2, h3⟩ := h.done a c hd
    refine ⟨by simp [h1], h2.imp (hk c) fun h => by simp [h], ?_⟩
    rintro (h4 | ⟨rfl, rfl⟩)
    · simp [h3 h4]
    · exact (same hv fun c hc => (hS c).2 (Or.inr hc)).trans (same hu fun c hc => (hS c).2 (Or.inl hc)).symm
  · exact ⟨by simp [hve], Or.inr (by simp [hue]), fun _ => (same hu fun c hc => (hS c).2 (Or.inl hc)).trans (same hv fun c hc => (hS c).2 (Or.inr hc)).symm⟩
end srch
end Go.Proofs.YtenjkhgpfmfgmaaDoor

namespace Go.Proofs.YtenjkhgpfmfgmaaDoor

/-- No greater matching by r: the even nodes, the odd ones, the classes of the even ones. -/
structure Trap (E : Nat → Nat → Prop) (m : Nat → Option Nat) (r : Nat) (Ev Od : Nat → Prop) (k : Nat → Nat) : Prop where
  root : Ev r
  disj : ∀ z, Ev z → ¬ Od z
  odd : ∀ x, Od x → ∃ y, m x = some y ∧ Ev y ∧ k y = y
  base : ∀ y, Ev y → Ev (k y) ∧ k (k y) = k y
  inn : ∀ y, Ev y → k y ≠ y → ∃ x, m y = some x ∧ Ev x ∧ k x = k y
  out : ∀ y, Ev y → k y = y → (m y = none ∧ y = r) ∨ ∃ x, m y = some x ∧ Od x
  nb : ∀ y u, Ev y → E y u → (Ev u ∧ k u = k y) ∨ Od u
  hang : ∀ x, Od x → ∃ w, Ev w ∧ E x w

section trap
variable {N : Nat} {E : Nat → Nat → Prop} {m f : Nat → Option Nat} {r : Nat} {Ev Od : Nat → Prop} {k : Nat → Nat}

/-- Within a class no way that leaves its base aside ends at a lone node. -/
theorem Trap.away (h : Trap E m r Ev Od k) (hs : ∀ a b, E a b → E b a) {t : Nat} (hf : ∀ x w, f x = some w → E x w) (ht : m t = none) :
    ∀ {l : List Nat} {w : Nat}, Way m f w l t → (∀ a ∈ l, ¬ Od a) → ¬ Od t → Ev w → k w ≠ w → (∀ a ∈ l, a ≠ k w ∧ m a ≠ some (k w)) → t ≠ k w → False
  | [], w, hw, _, _, he, hk, _, _ => by
    have : w = t := hw
    subst this
    obtain ⟨x, hx, _⟩ := h.inn w he hk
    rw [ht] at hx; cases hx
  | d :: l, w, ⟨h1, x, w', h2, h3, h4⟩, ho, hot, he, hk, hne, hnt => by
    subst h1
    obtain ⟨x', e1, e2, e3⟩ := h.inn _ he hk
    rw [h2] at e1; cases e1
    have hw' : ¬ Od w' := by
      cases l with
      | nil => rw [show w' = t from h4]; exact hot
      | cons c l => rw [← h4.1]; exact ho c (by simp)
    rcases h.nb x w' e2 (hf _ _ h3) with ⟨g1, g2⟩ | g
    · have ek : k w' = k d := g2.trans e3
      refine Trap.away h hs hf ht h4 (fun a ha => ho a (by simp [ha])) hot g1 (fun e => ?_) (fun a ha => ?_) ?_
      · have e' : w' = k d := e.symm.trans ek
        cases l with
        | nil => exact hnt ((show w' = t from h4).symm.trans e')
        | cons c l => exact (hne c (by simp)).1 (h4.1.trans e')
      · rw [ek]; exact hne a (by simp [ha])
      · rw [ek]; exact hnt
    · exact hw' g

/-- No way from a lone node comes to an odd one as an even one. -/
theorem Trap.even (h : Trap E m r Ev Od k) (hM : Mat N E m) (hs : ∀ a b, E a b → E b a) {t : Nat} (hf : ∀ x w, f x = some w → E x w) (ht : m t = none) :
    ∀ {l : List Nat} {y : Nat}, Way m f y l t → Simple m l t → (∀ a ∈ l, ¬ Od a)
  | [], _, _, _ => by simp
  | d :: l, y, ⟨h1, x, w, h2, h3, h4⟩, hS => by
    subst h1
    have hS' : Simple m l t := ⟨(List.nodup_cons.1 hS.nodup).2, fun h => hS.last (by simp [h]), fun a ha c hc => ⟨fun h => (hS.off a (by simp [ha]) c hc).1 (by simp [h]), (hS.off a (by simp [ha]) c hc).2⟩⟩
    have ih := Trap.even h hM hs hf ht h4 hS'
    have hot : ¬ Od t := fun e => by
      obtain ⟨y, e1, _⟩ := h.odd t e
      rw [ht] at e1; cases e1
    intro a ha
    rcases List.mem_cons.1 ha with rfl | ha
    · intro hod
      obtain ⟨y, e1, e2, e3⟩ := h.odd a hod
      rw [h2] at e1; cases e1
      have hoff := hS.off a (by simp) x h2
      have hw' : ¬ Od w := by
        cases l with
        | nil => rw [show w = t from h4]; exact hot
        | cons c l => rw [← h4.1]; exact ih c (by simp)
      rcases h.nb x w e2 (hf _ _ h3) with ⟨g1, g2⟩ | g
      · have hk : k w = x := g2.trans e3
        refine h.away hs hf ht h4 ih hot g1 (fun e => ?_) (fun c hc => ?_) ?_
        · rw [hk] at e
          cases l with
          | nil => exact hoff.2 (e.trans (show w = t from h4))
          | cons c l => exact hoff.1 (by simp [e, h4.1])
        · rw [hk]
          refine ⟨fun e => hoff.1 (by simp [← e, hc]), fun e => ?_⟩
          have := hM.inj e h2
          exact (List.nodup_cons.1 hS.nodup).1 (this ▸ hc)
        · rw [hk]; exact fun e => hoff.2 e.symm
      · exact hw' g
    · exact ih a ha

/-- A way from a trapped lone node stays in the trap. -/
theorem Trap.stay (h : Trap E m r Ev Od k) (hs : ∀ a b, E a b → E b a) {t : Nat} (hf : ∀ x w, f x = some w → E x w) (hM : Mat N E m) :
    ∀ {l : List Nat} {y : Nat}, Way m f y l t → (∀ a ∈ l, ¬ Od a) → Ev t → Ev y ∧ ∀ a ∈ l, Ev a
  | [], y, hw, _, he => ⟨by rw [show y = t from hw]; exact he, by simp⟩
  | d :: l, y, ⟨h1, x, w, h2, h3, h4⟩, ho, he => by
    subst h1
    obtain ⟨hw, hl⟩ := Trap.stay h hs hf hM h4 (fun a ha => ho a (by simp [ha])) he
    have hmx := hM.sym _ _ h2
    have : Ev d := by
      rcases h.nb w x hw (hs _ _ (hf _ _ h3)) with ⟨g1, g2⟩ | g
      · by_cases e : k x = x
        · rcases h.out x g1 e with ⟨e1, _⟩ | ⟨x', e1, e2⟩
          · rw [hmx] at e1; cases e1
          · rw [hmx] at e1; cases e1
            exact absurd e2 (ho d (by simp))
        · obtain ⟨x', e1, e2, _⟩ := h.inn x g1 e
          rw [hmx] at e1; cases e1
          exact e2
      · obtain ⟨y, e1, e2, _⟩ := h.odd x g
        rw [hmx] at e1; cases e1
        exact e2
    exact ⟨this, fun a ha => (List.mem_cons.1 ha).elim (fun e => e ▸ this) (hl a)⟩

/-- A way to another lone node: u, then v and so on to t. -/
structure Aug (N : Nat) (E : Nat → Nat → Prop) (m f : Nat → Option Nat) (u v t : Nat) (l : List Nat) : Prop where
  fu : f u = some v
  way : Way m f v l t
  simple : Simple m l t
  edge : ∀ x w, f x = some w → E x w ∧ x < N ∧ w < N
  ul : m u = none
  tl : m t = none
  ut : u ≠ t
  uo : u ∉ l

/-- A trap bears no way of others. -/
theorem Trap.past (h : Trap E m r Ev Od k) (hM : Mat N E m) (hs : ∀ a b, E a b → E b a) {u v t : Nat} {l : List Nat} (ha : Aug N E m f u v t l) :
    (t = r → False) ∧ (u ≠ r → ¬ Ev u ∧ ¬ Od u ∧ ¬ Ev t ∧ ¬ Od t ∧ ∀ a ∈ l, ¬ Ev a ∧ ¬ Od a ∧ ∀ x, m a = some x → ¬ Ev x ∧ ¬ Od x) := by
  have hf : ∀ x w, f x = some w → E x w := fun x w e => (ha.edge x w e).1
  have hev := h.even hM hs hf ha.tl ha.way ha.simple
  have lone : ∀ z, m z = Option.none → Ev z → z = r := by
    intro z hz he
    by_cases e : k z = z
    · rcases h.out z he e with ⟨_, e1⟩ | ⟨x, e1, _⟩
      · exact e1
      · rw [hz] at e1; cases e1
    · obtain ⟨x, e1, _⟩ := h.inn z he e
      rw [hz] at e1; cases e1
  have lodd : ∀ z, m z = Option.none → ¬ Od z := fun z hz ho => by
    obtain ⟨y, e1, _⟩ := h.odd z ho
    rw [hz] at e1; cases e1
  have vu : Ev v → Ev u := fun hv => by
    rcases h.nb v u hv (hs _ _ (hf _ _ ha.fu)) with ⟨e, _⟩ | e
    · exact e
    · exact absurd e (lodd u ha.ul)
  refine ⟨fun e => ?_, fun hur => ?_⟩
  · have he : Ev t := e ▸ h.root
    have := vu (h.stay hs hf hM ha.way hev he).1
    exact ha.ut ((lone u ha.ul this).trans e.symm)
  · have hu : ¬ Ev u := fun he => hur (lone u ha.ul he)
    -- a node of the way that is even leads to u
    have back : ∀ {l1 : List Nat} {y : Nat}, Way m f y l1 t → (∀ a ∈ l1, ¬ Od a) → (∃ a ∈ l1, Ev a) → Ev y := by
      intro l1
      induction l1 with
      | nil => rintro y _ _ ⟨a, ha, _⟩; cases ha
      | cons d l1 ih =>
        rintro y ⟨h1, x, w, h2, h3, h4⟩ ho ⟨a, hal, hae⟩
        subst h1
        rcases List.mem_cons.1 hal with rfl | hal
        · exact hae
        · have hw : Ev w := ih h4 (fun a ha => ho a (by simp [ha])) ⟨a, hal, hae⟩
          have hmx := hM.sym _ _ h2
          rcases h.nb w x hw (hs _ _ (hf _ _ h3)) with ⟨g1, g2⟩ | g
          · by_cases e : k x = x
            · rcases h.out x g1 e with ⟨e1, _⟩ | ⟨x', e1, e2⟩
              · rw [hmx] at e1; cases e1
              · rw [hmx] at e1; cases e1
                exact absurd e2 (ho d (by simp))
            · obtain ⟨x', e1, e2, _⟩ := h.inn x g1 e
              rw [hmx] at e1; cases e1
              exact e2
          · obtain ⟨y, e1, e2, _⟩ := h.odd x g
            rw [hmx] at e1; cases e1
            exact e2
    have hl : ∀ a ∈ l, ¬ Ev a := fun a hal he => hu (vu (back ha.way hev ⟨a, hal, he⟩))
    have ht : ¬ Ev t := fun he => hu (vu (h.stay hs hf hM ha.way hev he).1)
    refine ⟨hu, lodd u ha.ul, ht, lodd t ha.tl, fun a hal => ⟨hl a hal, hev a hal, fun x hx => ⟨fun he => ?_, fun ho => ?_⟩⟩⟩
    · have hmx := hM.sym _ _ hx
      by_cases e : k x = x
      · rcases h.out x he e with ⟨e1, _⟩ | ⟨x', e1, e2⟩
        · rw [hmx] at e1; cases e1
        · rw [hmx] at e1; cases e1
          exact hev a hal e2
      · obtain ⟨x', e1, e2, _⟩ := h.inn x he e
        rw [hmx] at e1; cases e1
        exact hl a hal e2
    · have hmx := hM.sym _ _ hx
      obtain ⟨y, e1, e2, _⟩ := h.odd x ho
      rw [hmx] at e1; cases e1
      exact hl a hal e2

theorem Trap.congr {n : Nat → Option Nat} (h : Trap E m r Ev Od k) (hc : ∀ z, Ev z ∨ Od z → n z = m z) : Trap E n r Ev Od k where
  root := h.root
  disj := h.disj
  odd := fun x hx => by rw [hc x (Or.inr hx)]; exact h.odd x hx
  base := h.base
  inn := fun y hy => by rw [hc y (Or.inl hy)]; exact h.inn y hy
  out := fun y hy => by rw [hc y (Or.inl hy)]; exact h.out y hy
  nb := h.nb
  hang := h.hang

/-- One step of the turning. -/
def pairS (m : Nat → Option Nat) (a b : Nat) (z : Nat) : Option Nat := if z = b then some a else if z = a then some b else m z
/-- What comes of it: from e on. -/
def turned (m : Nat → Option Nat) (t : Nat) : Nat → List Nat → Nat → Option Nat
  | e, [] => pairS m e t
  | e, v :: l => match m v with
    | some x => turned (pairS m e v) t x l
    | none => m

/-- m but for e. -/
def cutM (m : Nat → Option Nat) (e : Nat) (z : Nat) : Option Nat := if z = e then none else m z

theorem cutM_self {m : Nat → Option Nat} {e : Nat} (h : m e = none) : cutM m e = m := by
  funext z
  unfold cutM
  split
  · rename_i hz; rw [hz, h]
  · rfl

/-- What comes of turning is a matching again, greater by one. -/
theorem turned_ok (hs : ∀ a b, E a b → E b a) {t : Nat} (hf : ∀ x w, f x = some w → E x w ∧ x < N ∧ w < N) :
    ∀ {l : List Nat} {m : Nat → Option Nat} {e v : Nat}, Mat N E (cutM m e) → f e = some v → Way m f v l t → Simple m l t → m t = none → e ∉ l → e ≠ t → (∀ a ∈ l, m a ≠ some e) →
      Mat N E (turned m t e l) ∧ (∀ z, turned m t e l z = none ↔ cutM m e z = none ∧ z ≠ e ∧ z ≠ t) ∧ ∀ z, z ≠ e → z ≠ t → z ∉ l → (∀ a ∈ l, m a ≠ some z) → turned m t e l z = m z
  | [], m, e, v, hM, hv, hw, hS, ht, _, het, _ => by
    have hvt : v = t := hw
    subst hvt
    have he := hf e v hv
    have hte : v ≠ e := fun e' => het e'.symm
    have old : ∀ a b, m a = some b → a ≠ e → b ≠ e ∧ b ≠ v ∧ m b = some a := by
      intro a b hab hae
      have h1 : cutM m e a = some b := by rw [cutM, if_neg hae]; exact hab
      have h2 := hM.sym _ _ h1
      by_cases e1 : b = e
      · rw [cutM, if_pos e1] at h2; cases h2
      · rw [cutM, if_neg e1] at h2
        exact ⟨e1, (fun e2 => by rw [e2, ht] at h2; cases h2), h2⟩
    refine ⟨⟨?_, ?_, ?_⟩, ?_, ?_⟩
    · intro a b hab
      simp only [turned, pairS] at hab
      split at hab
      · cases hab; rename_i h; rw [h]; exact ⟨he.2.2, he.2.1⟩
      · split at hab
        · cases hab; rename_i h; rw [h]; exact ⟨he.2.1, he.2.2⟩
        · rename_i _ h
          exact hM.lt a b (by rw [cutM, if_neg h]; exact hab)
    · intro a b hab
      simp only [turned, pairS] at hab ⊢
      split at hab
      · rename_i h
        cases hab
        rw [if_neg hte.symm, if_pos rfl, h]
      · split at hab
        · rename_i h
          cases hab
          rw [if_pos rfl, h]
        · rename_i h1 h2
          obtain ⟨o1, o2, o3⟩ := old a b hab h2
          rw [if_neg o2, if_neg o1]; exact o3
    · intro a b hab
      simp only [turned, pairS] at hab
      split at hab
      · cases hab; rename_i h; rw [h]; exact hs _ _ he.1
      · split at hab
        · cases hab; rename_i h; rw [h]; exact he.1
        · rename_i _ h
          exact hM.edge a b (by rw [cutM, if_neg h]; exact hab)
    · intro z
      simp only [turned, pairS]
      by_cases e1 : z = v
      · simp [e1]
      · by_cases e2 : z = e
        · subst e2; simp [het]
        · simp [e1, e2, cutM]
    · intro z h1 h2 _ _
      simp only [turned, pairS]
      rw [if_neg h2, if_neg h1]
  | d :: l, m, e, v, hM, hv, ⟨hdv, x, w, h2, h3, h4⟩, hS, ht, hel, het, hme => by
    subst hdv
    have he := hf e d hv
    have hde : d ≠ e := fun e' => hel (by simp [e'])
    have hxe : x ≠ e := fun e' => hme d (by simp) (e' ▸ h2)
    have hoff := hS.off d (by simp) x h2
    have hnd := List.nodup_cons.1 hS.nodup
    have hdx : d ≠ x := fun e' => hoff.1 (by simp [← e'])
    have htd : t ≠ d := fun e' => hS.last (by simp [e'])
    have hcd : cutM m e d = some x := by rw [cutM, if_neg hde]; exact h2
    have hxd : m x = some d := by
      have := hM.sym _ _ hcd
      rwa [cutM, if_neg hxe] at this
    have old : ∀ a b, m a = some b → a ≠ e → b ≠ e ∧ m b = some a := by
      intro a b hab hae
      have h1 : cutM m e a = some b := by rw [cutM, if_neg hae]; exact hab
      have h2 := hM.sym _ _ h1
      by_cases e1 : b = e
      · rw [cutM, if_pos e1] at h2; cases h2
      · rw [cutM, if_neg e1] at h2
        exact ⟨e1, h2⟩
    have p1 : ∀ z, z ≠ e → z ≠ d → pairS m e d z = m z := fun z a b => by rw [pairS, if_neg b, if_neg a]
    have hM1 : Mat N E (cutM (pairS m e d) x) := by
      have val : ∀ a b, cutM (pairS m e d) x a = some b → a ≠ x ∧ ((a = d ∧ b = e) ∨ (a = e ∧ b = d) ∨ (a ≠ d ∧ a ≠ e ∧ m a = some b)) := by
        intro a b hab
        unfold cutM at hab
        split at hab
        · cases hab
        · rename_i hx
          refine ⟨hx, ?_⟩
          unfold pairS at hab
          split at hab
          · cases hab; rename_i h; exact Or.inl ⟨h, rfl⟩
          · split at hab
            · cases hab; rename_i h; exact Or.inr (Or.inl ⟨h, rfl⟩)
            · rename_i g1 g2; exact Or.inr (Or.inr ⟨g1, g2, hab⟩)
      refine ⟨?_, ?_, ?_⟩
      · intro a b hab
        obtain ⟨_, ⟨rfl, rfl⟩ | ⟨rfl, rfl⟩ | ⟨_, g, h⟩⟩ := val a b hab
        · exact ⟨he.2.2, he.2.1⟩
        · exact ⟨he.2.1, he.2.2⟩
        · exact hM.lt a b (by rw [cutM, if_neg g]; exact h)
      · intro a b hab
        obtain ⟨hax, ⟨rfl, rfl⟩ | ⟨rfl, rfl⟩ | ⟨g1, g, h⟩⟩ := val a b hab
        · rw [cutM, if_neg hxe.symm, pairS, if_neg hde.symm, if_pos rfl]
        · rw [cutM, if_neg hdx, pairS, if_pos rfl]
        · obtain ⟨o1, o2⟩ := old a b h g
          have hbx : b ≠ x := fun e' => by rw [e', hxd] at o2; cases o2; exact g1 rfl
          have hbd : b ≠ d := fun e' => by rw [e', h2] at o2; cases o2; exact hax rfl
          rw [cutM, if_neg hbx, p1 b o1 hbd]; exact o2
      · intro a b hab
        obtain ⟨_, ⟨rfl, rfl⟩ | ⟨rfl, rfl⟩ | ⟨_, g, h⟩⟩ := val a b hab
        · exact hs _ _ he.1
        · exact he.1
        · exact hM.edge a b (by rw [cutM, if_neg g]; exact h)
    have pl : ∀ a ∈ l, pairS m e d a = m a := fun a ha => p1 a (fun e' => hel (by simp [← e', ha])) (fun e' => hnd.1 (e' ▸ ha))
    have ih := turned_ok hs hf hM1 h3 (h4.congrM pl)
      ⟨hnd.2, fun h => hS.last (by simp [h]), fun a ha c hc => by
        rw [pl a ha] at hc
        have := hS.off a (by simp [ha]) c hc
        exact ⟨fun h => this.1 (by simp [h]), this.2⟩⟩
      (by rw [p1 t het.symm htd]; exact ht) (fun h => hoff.1 (by simp [h])) hoff.2
      (fun a ha hax => by
        rw [pl a ha] at hax
        have := (old a x hax (fun e' => hel (by simp [← e', ha]))).2
        rw [hxd] at this; cases this
        exact hnd.1 ha)
    have hun : turned m t e (d :: l) = turned (pairS m e d) t x l := by simp only [turned, h2]
    rw [hun]
    refine ⟨ih.1, fun z => ?_, fun z z1 z2 z3 z4 => ?_⟩
    · rw [ih.2.1 z]
      by_cases c1 : z = d
      · subst c1
        simp [cutM, pairS, hdx, hde, h2]
      · by_cases c2 : z = e
        · subst c2
          simp [cutM, pairS, hxe.symm, hde.symm]
        · by_cases c3 : z = x
          · subst c3
            simp [cutM, c2, hxd]
          · simp [cutM, pairS, c1, c2, c3]
    · rw [ih.2.2 z (fun e' => z4 d (by simp) (e' ▸ h2)) z2 (fun h => z3 (by simp [h])) (fun a ha => by rw [pl a ha]; exact z4 a (by simp [ha]))]
      exact p1 z z1 (fun e' => z3 (by simp [e']))
end trap

section srch
variable {N : Nat} {E : Nat → Nat → Prop} {m : Nat → Option Nat} {r : Nat} {ev : Nat → Bool} {f : Nat → Option Nat} {bs dep : Nat → Nat}

/-- From each even node a way leads to the root. -/
theorem Srch.full (h : Srch N E m r ev f bs dep) (hM : Mat N E m) {v : Nat} (hv : ev v = true) : ∃ l, Way m f v l r ∧ Simple m l r ∧ ∀ a ∈ l, ev a = true := by
  obtain ⟨lv, hc⟩ := h.chain (dep (bs v) + 1) v (by omega) hv
  obtain ⟨pv, zv, hl, _⟩ := h.led hM hv hc
  have hrr : bs r = r := by rw [← hl.fin, h.bb]
  have hbv : r ∉ lv := fun hb => Nat.lt_irrefl _ (hl.deep r hb)
  obtain ⟨i, e1, e2, e3, e4⟩ := h.inn zv hl.fine
  rw [hl.fin] at e1 e2 e3 e4
  have vpb : ∀ y ∈ pv, ∀ x, m y = some x → bs x ≠ r := fun y hy x hx e => by
    obtain ⟨x', hx1, h2⟩ := hl.mate y hy
    rw [hx] at hx1; cases hx1
    rcases h2 with h2 | h2
    · exact hbv (by rw [← e, h2]; exact hl.bases y hy)
    · have := h.cls h.root (e.trans hrr.symm)
      rw [h2.2] at this; cases this
  refine ⟨pv ++ i, hl.way.append e1, Simple.append hM hl.simple.nodup e2 fun a hp => ?_, fun a ha => ?_⟩
  · have nb : bs a ≠ r := fun e => hbv (e ▸ hl.bases a hp)
    exact ⟨fun hi => nb (e3 a hi), fun e => nb (by rw [e, hrr]), fun c hc => ⟨fun hm => (hl.simple.off a hp c hc).1 hm, fun hi => vpb a hp c hc (e3 c hi), fun e => vpb a hp c hc (by rw [e, hrr])⟩⟩
  · rcases List.mem_append.1 ha with ha | ha
    · exact hl.evs a ha
    · exact h.cls h.root ((e3 a ha).trans hrr.symm)

/-- A lone node beside an even one: there is a way. -/
theorem Srch.aug (h : Srch N E m r ev f bs dep) (hM : Mat N E m) (hs : ∀ a b, E a b → E b a) {u v : Nat} (hv : ev v = true) (hu : ev u = false) (huv : E v u) (huN : u < N) (hm : m u = none) :
    ∃ l, Aug N E m (fun w => if w = u then some v else f w) u v r l := by
  obtain ⟨l, h1, h2, h3⟩ := h.full hM hv
  refine ⟨l, by simp, h1.congr fun z hz x hx => ?_, h2, fun x w hx => ?_, hm, h.rlone, fun e => ?_, fun hul => ?_⟩
  · rw [if_neg]
    intro e
    rw [e] at hx
    have := hM.sym _ _ hx
    rw [hm] at this; cases this
  · by_cases e : x = u
    · rw [if_pos e] at hx; cases hx
      exact ⟨e ▸ hs _ _ huv, e ▸ huN, h.evlt v hv⟩
    · rw [if_neg e] at hx
      exact h.edge x w hx
  · rw [e, h.root] at hu; cases hu
  · rw [h3 u hul] at hu; cases hu

/-- Ways from the even nodes of a trap to its root, and within the classes. -/
structure Ways (E : Nat → Nat → Prop) (m : Nat → Option Nat) (r : Nat) (Ev : Nat → Prop) (k : Nat → Nat) : Prop where
  reach : ∀ y, Ev y → ∃ f l, (∀ x w, f x = some w → E x w) ∧ Way m f y l r ∧ Simple m l r
  con : ∀ y, Ev y → Star (fun a b => E a b ∧ Ev b ∧ k b = k y) y (k y)

/-- A search that has looked at all edges shows a trap. -/
theorem Seek.trap {q : List Nat} {D : Nat → Nat → Prop} (h : Seek N E m r ev f bs dep q D) (hM : Mat N E m) (hs : ∀ a b, E a b → E b a) (hD : ∀ v u, ev v = true → E v u → D v u) :
    Trap E m r (fun z => ev z = true) (fun x => ev x = false ∧ f x ≠ none) bs ∧ Ways E m r (fun z => ev z = true) bs := by
  have hS := h.srch
  refine ⟨⟨hS.root, (fun z h1 h2 => by rw [h1] at h2; cases h2.1), fun x hx => ?_, fun y hy => ⟨hS.ebs y hy, hS.bb y⟩, fun y hy hb => ?_, fun y hy hb => ?_, fun y u hy hu => ?_, fun x hx => ?_⟩, ⟨fun y hy => ?_, fun y hy => ?_⟩⟩
  · obtain ⟨w, hw⟩ := Option.ne_none_iff_exists'.1 hx.2
    exact hS.odd x w hx.1 hw
  · obtain ⟨l, h1, h2, h3, h4⟩ := hS.inn y hy
    cases l with
    | nil => exact absurd (show y = bs y from h1).symm hb
    | cons d l =>
      obtain ⟨e, x, w, g1, g2, _⟩ := h1
      subst e
      have := h4 d (by simp) x g1
      exact ⟨x, g1, hS.cls hy this, this⟩
  · rcases hS.out y hy hb with e | ⟨x, w, g1, g2, g3, _⟩
    · exact Or.inl ⟨e ▸ hS.rlone, e⟩
    · exact Or.inr ⟨x, g1, g2, by rw [g3]; simp⟩
  · obtain ⟨h1, h2, h3⟩ := h.done y u (hD y u hy hu)
    cases e : ev u
    · exact Or.inr ⟨rfl, h2.resolve_right (by rw [e]; simp)⟩
    · exact Or.inl ⟨rfl, h3 (hD u y e (hs _ _ hu))⟩
  · obtain ⟨w, hw⟩ := Option.ne_none_iff_exists'.1 hx.2
    exact ⟨w, hS.fev x w hw, (hS.edge x w hw).1⟩
  · obtain ⟨l, h1, h2, _⟩ := hS.full hM hy
    exact ⟨f, l, fun x w e => (hS.edge x w e).1, h1, h2⟩
  · obtain ⟨l, h1, h2, h3, h4⟩ := hS.inn y hy
    have hbb := hS.bb y
    have : ∀ {l : List Nat} {c : Nat}, Way m f c l (bs y) → bs c = bs y → (∀ z ∈ l, bs z = bs y) → (∀ z ∈ l, ∀ x, m z = some x → bs x = bs y) → Star (fun a b => E a b ∧ ev b = true ∧ bs b = bs y) c (bs y) := by
      intro l
      induction l with
      | nil => intro c hc _ _ _; rw [show c = bs y from hc]; exact .refl _
      | cons d l ih =>
        rintro c ⟨e, x, w, g1, g2, g3⟩ hc hz hm
        subst e
        have hx := hm d (by simp) x g1
        have hw : bs w = bs y := by
          cases l with
          | nil => rw [show w = bs y from g3]; exact hbb
          | cons a l => rw [← g3.1]; exact hz a (by simp)
        have s1 : Star (fun a b => E a b ∧ ev b = true ∧ bs b = bs y) d x := .one ⟨hM.edge _ _ g1, hS.cls hy hx, hx⟩
        have s2 : Star (fun a b => E a b ∧ ev b = true ∧ bs b = bs y) x w := .one ⟨(hS.edge _ _ g2).1, hS.cls hy hw, hw⟩
        exact (s1.trans s2).trans (ih g3 hw (fun z h => hz z (by simp [h])) fun z h => hm z (by simp [h]))
    exact this h1 rfl h3 h4
end srch
end Go.Proofs.YtenjkhgpfmfgmaaDoor
