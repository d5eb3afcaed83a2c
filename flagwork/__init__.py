"""A processor's operations as data: the numbers they give and the flags they leave."""
